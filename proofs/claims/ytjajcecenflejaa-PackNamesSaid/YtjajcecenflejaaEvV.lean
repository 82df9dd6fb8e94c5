/- A machine that runs a Go text by reckoning: tables of the library, functions of a program. Of no program. -/
import Derived.Test.YtjajcecenflejaaEvU
import Derived.LaidMore
import Derived.LaidLaws
import Derived.OpenShut
namespace Go.Ev
open Go.RowKit

theorem tabA_conc {R : Rf} (k : IntKind) : ∀ l : List Nat, concL R (tabA k l) = some (l.map fun (n : Nat) => Value.int k n)
  | [] => rfl
  | _ :: l => concL_cons.2 ⟨_, _, rfl, tabA_conc k l, rfl⟩
theorem GOk.lf {B : Nat → Prop} {W : World} : GOk B W .lf := fun g c h => by rw [PT.get_lf] at h; cases h
theorem GOk.put {B : Nat → Prop} {W : World} {G : PT (List AV)} (hG : GOk B W G) {g0 : Nat} {c : List AV} {xs : List Value} {e : TypeId} {fz : Nat × Nat} (hc : concL (fun _ => none) c = some xs) (hW : W.heap[g0]? = some (.cells xs.toArray e fz)) (hB : ∀ k, k < W.heap.size → B k) :
    GOk B W (G.set (some c) (psOf g0)) := by
  intro g c' h
  by_cases hg : g = g0
  · subst hg
    rw [PT.get_set] at h
    simp only [Option.some.injEq] at h; subst h
    have := (Array.getElem?_eq_some_iff.1 hW).1
    exact ⟨hB _ this, xs, [], e, fz, hc, by simpa using hW⟩
  · rw [PT.get_set_ne _ _ _ _ (fun e => hg (psOf_inj e).symm)] at h
    exact hG g c' h
/-- an array of integers, as its datum has it -/
theorem cells_of_agg {P : Program} {W : World} {H : Type} {enc : TypeId × Value → H} {base fuel : Nat} {sp : Nat → Bool} {hd : Bool} {t e : TypeId} {n : Nat} {k : IntKind} {zs : List Nat} {cs : List Value} {p : List MemPlace} (ht : P.underlying t = some (.array n e)) (he : P.underlying e = some (.int k)) (hc : P.cellsOf e = 1) (hct : P.cellsOf t = n)
    (h : DataW.trod enc P W base sp hd fuel t cs = some (.agg (zs.map fun (z : Nat) => DataW.lit (.int k z)), p)) : cs = zs.map fun (z : Nat) => Value.int k z := by
  obtain ⟨xs, m, rfl, h1, h2, h3, h4⟩ := DataW.trod_array ht h
  simp only [Prod.mk.injEq, DataW.agg.injEq] at h1
  have hl : zs.length = xs.length := by have := congrArg List.length h1.1; simpa using this
  refine List.ext_getElem (by rw [List.length_map]; omega) fun i hi hj => ?_
  have hi' : i < xs.length := by omega
  have h5 := h4 i (by omega)
  rw [hc, Nat.mul_one, List.getElem?_eq_getElem hi'] at h5
  obtain ⟨y, y1, y2, _⟩ := DataW.trod_int he h5
  have h6 : (cs.drop i).take 1 = [cs[i]] := by
    rw [List.drop_eq_getElem_cons hi]; rfl
  rw [h6] at y1
  simp only [List.cons.injEq, and_true] at y1
  have h7 : (xs.map (·.1))[i]'(by simpa using hi') = (zs.map fun (z : Nat) => DataW.lit (.int k z))[i]'(by simpa [hl] using hi') := by
    simp only [← h1.1]
  simp only [List.getElem_map, y2, DataW.lit.injEq, Lit.int.injEq, true_and] at h7
  rw [y1, h7, List.getElem_map]
theorem var_heap {P : Program} {W : World} {n : String} {g : Nat} {cs : Array Value} (hg : P.globalNamed n = some g) (h : W.var? P n = some cs) : ∃ e fz, W.heap[g]? = some (.cells cs e fz) := by
  unfold World.var? at h
  rw [hg, Option.bind_some] at h
  split at h
  · rename_i c e fz hc
    simp only [Option.some.injEq] at h; subst h
    exact ⟨e, fz, hc⟩
  · cases h
/-- the first table that a row lists -/
theorem laid_one {P : Program} {W : World} {n : String} {zs : List Nat} {r : List (String × DataW Unit)} {k : IntKind} {t e : TypeId} {l g : Nat} {ps : List MemPlace} (h : DataW.LaidVars P W ((n, .agg (zs.map fun (z : Nat) => DataW.lit (.int k z))) :: r) ps)
    (hg : P.globalNamed n = some g) (hty : (P.globals[g]?).map (·.type) = some t) (ht : P.underlying t = some (.array l e)) (he : P.underlying e = some (.int k)) (hc : P.cellsOf e = 1) (hct : P.cellsOf t = l) :
    (∃ e fz, W.heap[g]? = some (.cells (zs.map fun (z : Nat) => Value.int k z).toArray e fz)) ∧ ∃ q, DataW.LaidVars P W r q := by
  obtain ⟨g', t', cs, fuel, p, q, a1, a2, a3, a4, a5, _⟩ := h
  rw [hg] at a1
  obtain rfl := Option.some.inj a1
  rw [hty] at a2
  obtain rfl := Option.some.inj a2
  have := cells_of_agg ht he hc hct a4
  obtain ⟨e', fz, b1⟩ := var_heap hg a3
  exact ⟨⟨e', fz, by rw [← this]; exact b1⟩, q, a5⟩
/-- the functions of a program, by their numbers -/
noncomputable def tabF (l : List (Nat × Func)) : PT Func := List.rec .lf (fun p _ ih => ih.set (some p.2) (psOf p.1)) l
def AllF (P : Program) : List (Nat × Func) → Prop
  | [] => True
  | p :: l => P.funcs[p.1]? = some p.2 ∧ AllF P l
theorem tabF_ok {P : Program} : ∀ {l : List (Nat × Func)}, AllF P l → ∀ g fn, (tabF l).get (psOf g) = some fn → P.funcs[g]? = some fn
  | [], _, g, fn, h => by
    have h' : (PT.lf : PT Func).get (psOf g) = some fn := h
    rw [PT.get_lf] at h'; cases h'
  | p :: l, h, g, fn, hg => by
    have h' : ((tabF l).set (some p.2) (psOf p.1)).get (psOf g) = some fn := hg
    by_cases e : g = p.1
    · subst e
      rw [PT.get_set] at h'
      simp only [Option.some.injEq] at h'; subst h'
      exact h.1
    · rw [PT.get_set_ne _ _ _ _ (fun e' => e (psOf_inj e').symm)] at h'
      exact tabF_ok h.2 g fn h'
theorem tabI_ok {P : Program} {B : Nat → Prop} {W : World} {I : PT Intr} (hI : ∀ g f, I.get (psOf g) = some f → IntrOk P B W g f) {g0 : Nat} {f0 : Intr} (h0 : IntrOk P B W g0 f0) : ∀ g f, (I.set (some f0) (psOf g0)).get (psOf g) = some f → IntrOk P B W g f := by
  intro g f h
  by_cases e : g = g0
  · subst e
    rw [PT.get_set] at h
    simp only [Option.some.injEq] at h; subst h
    exact h0
  · rw [PT.get_set_ne _ _ _ _ (fun e' => e (psOf_inj e').symm)] at h
    exact hI g f h
theorem tabI_lf {P : Program} {B : Nat → Prop} {W : World} : ∀ g f, (PT.lf : PT Intr).get (psOf g) = some f → IntrOk P B W g f := fun g f h => by rw [PT.get_lf] at h; cases h
theorem tabD_ok {P : Program} {G : PT (List AV)} {fuel : Nat} : ∀ {l : List (Nat × Func)}, AllF P l → ∀ g c, (tabD P G fuel l).get (psOf g) = some c → ∃ fn, P.funcs[g]? = some fn ∧ c = fnc P G fuel fn
  | [], _, g, c, h => by
    have h' : (PT.lf : PT (Cl Fn)).get (psOf g) = some c := h
    rw [PT.get_lf] at h'; cases h'
  | p :: l, h, g, c, hg => by
    have h' : ((tabD P G fuel l).set (some (fnc P G fuel p.2)) (psOf p.1)).get (psOf g) = some c := hg
    by_cases e : g = p.1
    · subst e
      rw [PT.get_set] at h'
      simp only [Option.some.injEq] at h'; subst h'
      exact ⟨p.2, h.1, rfl⟩
    · rw [PT.get_set_ne _ _ _ _ (fun e' => e (psOf_inj e').symm)] at h'
      exact tabD_ok h.2 g c h'
theorem tabC_ok {P : Program} {G : PT (List AV)} {fuel : Nat} {l : List (Nat × Func)} (hl : AllF P l) (g : Nat) (c : Cl Fn) (hne : g ≠ yNo) (h : (tabC P G fuel l).get (psOf g) = some c) : ∃ fn, P.funcs[g]? = some fn ∧ c = fnc P G fuel fn := by
  unfold tabC at h
  rw [PT.get_set_ne _ _ _ _ (fun e' => hne (psOf_inj e').symm)] at h
  exact tabD_ok hl g c h
theorem tabC_yNo {P : Program} {G : PT (List AV)} {fuel : Nat} {l : List (Nat × Func)} (c : Cl Fn) (h : (tabC P G fuel l).get (psOf yNo) = some c) : c = .mk (yld P G fuel) := by
  unfold tabC at h
  rw [PT.get_set] at h
  simp only [Option.some.injEq] at h
  exact h.symm
/-- A function without arguments that comes to true, whatever the tape says. -/
theorem comes_true {P : Program} {w : World} {G : PT (List AV)} {l : List (Nat × Func)} {I : PT Intr} (hG : GOk (fun k => k < w.heap.size) w G) (hm : P.follows .mixedOrders = true) (hl : AllF P l) (hI : ∀ B W, GOk B W G → ∀ g f, I.get (psOf g) = some f → IntrOk P B W g f)
    (fuel d : Nat) {g : FuncId} (h : goF (tabC P G fuel l) I d g [] ⟨.lf, .h⟩ (fun v _ => isT v) = true) (hne : g ≠ yNo := by decide) : Calls P g #[] w fun e w' => e = .returned (.bool true) ∧ RowKit.Below w.heap.size w w' := by
  have hr : Rel P (fun k => k < w.heap.size) w [] (fun _ => none) (⟨.lf, .h⟩ : S).h w := ⟨(fun b o k x e => by rw [PT.get_lf] at e; cases e), (fun b o hb => by cases hb), List.nodup_nil, (fun b b' o o' k x x' e => by rw [PT.get_lf] at e; cases e), fun b _ => rfl, (fun b k x e => by cases e), fun _ h => h, Kept.refl _ w⟩
  have := ((goF_spec hm (tabC_ok hl) tabC_yNo hI d _ _ hG).call g [] _ _ hne h [] _ w [] hr rfl).2
  refine Calls.mono this ?_
  rintro e w' ⟨X, rfl, v, s', R', h1, h2, h3, h4, h5⟩
  unfold isT at h1
  split at h1
  · rename_i x
    subst h1
    simp only [conc, Option.some.injEq] at h3
    subst h3
    exact ⟨rfl, h5.below⟩
  · cases h1
theorem CallOk.mono {P : Program} {B : Nat → Prop} {W : World} {g : FuncId} {vs : List AV} {s : S} {K K' : AV → S → Prop} (h : CallOk P B W g vs s K) (hk : ∀ v s, K v s → K' v s) : CallOk P B W g vs s K' :=
  fun D R w xs h1 h2 => ⟨(h D R w xs h1 h2).1, Calls.mono (h D R w xs h1 h2).2 fun _ _ ⟨X, he, v, s', R', a1, a2⟩ => ⟨X, he, v, s', R', hk _ _ a1, a2⟩⟩
/-- a call that was run is told wherever one like it comes -/
theorem mem_of_run {P : Program} {G : PT (List AV)} {l : List (Nat × Func)} {I : PT Intr} (hm : P.follows .mixedOrders = true) (hl : AllF P l) (hI : ∀ (B : Nat → Prop) (W : World) g f, I.get (psOf g) = some f → IntrOk P B W g f)
    {fuel d : Nat} {g : FuncId} {L : Hl} {vs0 : List AV} {v1 : AV} {n0 : Ps} (h : goF (tabC P G fuel l) I d g vs0 ⟨tabH L, n0⟩ (fun v s' => bif avEq 20 v v1 then keepH L s'.h else false) = true) {B : Nat → Prop} {W : World} (hG : GOk B W G) (hne : g ≠ yNo := by decide) : IntrOk P B W g (memI L vs0 v1) :=
  mem_ok hG fun B' W' hG' => ((goF_spec hm (tabC_ok hl) tabC_yNo (fun B W _ => hI B W) d B' W' hG').call g _ _ _ hne h).mono fun v s' hv => by
    cases he : avEq 20 v v1 with
    | false => rw [he] at hv; cases hv
    | true => rw [he] at hv; exact ⟨avEq_eq 20 _ _ he, hv⟩
end Go.Ev
