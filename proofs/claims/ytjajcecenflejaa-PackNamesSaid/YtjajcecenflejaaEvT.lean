/- A machine that runs a Go text by reckoning: tables, and functions of the library that are told. Of no program. -/
import Derived.Test.YtjajcecenflejaaEwF
import Derived.Lib.TrailingZeros
namespace Go.Ev
open Go.RowKit
/-- A table of the library: its cells, in the machine's values. -/
noncomputable def tabA (k : IntKind) (l : List Nat) : List AV := List.rec [] (fun n _ ih => .i k (.ofNat n) :: ih) l
noncomputable def insU (x : List UInt8) : List (List UInt8) → List (List UInt8) := List.rec [x] (fun y l ih => bif decide (x ≤ y) then x :: y :: l else y :: ih)
noncomputable def sortU : List (List UInt8) → List (List UInt8) := List.rec [] (fun x _ ih => insU x ih)
/-- not too many, none too long -/
noncomputable def shortU (l : List (List UInt8)) : Bool := bif Nat.ble (len l) 1000000000000 then List.rec true (fun x _ ih => bif Nat.ble (len x) 1000000000000 then ih else false) l else false
/-- entries of a map: their keys are apart, and their stamps -/
noncomputable def stampA (l : List (List UInt8)) (es : List (AV × AV × Nat)) (c : Nat) : Bool := bif decide l.Nodup then (bif decide (es.map fun e => e.2.2).Nodup then decide (∀ e ∈ es, e.2.2 < c) else false) else false
/-- values that are texts -/
noncomputable def strsA : List AV → Option (List (List UInt8)) := List.rec (some []) (fun v _ ih => match v with
  | .s x => (match ih with
    | some l => some (x :: l)
    | none => none)
  | _ => none)
/-- a row of texts that a function made, as slices do: nil, if none -/
noncomputable def rowU (st : TypeId) (l : List (List UInt8)) (s : S) : Option (AV × S) := match l with
  | [] => some (.l0, s)
  | x :: l => (match newO (.cells ((x :: l).map .s) st false) s with
    | some (p, s') => some (.l p 0 (len (x :: l)) (len (x :: l)), s')
    | none => none)
/-- slices.AppendSeq(nil, seq), seq one of slices.Values -/
noncomputable def appSeqI (st g0 : Nat) : Intr := fun a s => match a with
  | [.l0, .f g [.p b 0]] => bif Nat.beq g g0 then (match s.h.get b with
    | some (.cells [.l b' o n _] _ true) => (match ldN s.h b' o n with
      | some c => (match strsA c with
        | some l => bif shortU l then rowU st l s else none
        | none => none)
      | none => none)
    | _ => none) else none
  | _ => none
/-- slices.Sorted(seq), seq one of maps.Keys -/
noncomputable def sortedI (st g0 : Nat) : Intr := fun a s => match a with
  | [.f g [.p b 0]] => bif Nat.beq g g0 then (match s.h.get b with
    | some (.cells [.m m] _ true) => (match s.h.get m with
      | some (.map es c) => (match strsA (es.map fun e => e.1) with
        | some l => bif shortU l then (bif stampA l es c then rowU st (sortU l) s else none) else none
        | none => none)
      | _ => none)
    | _ => none) else none
  | _ => none
/-- one or the other -/
noncomputable def orI (f g : Intr) : Intr := fun a s => match f a s with
  | some r => some r
  | none => g a s
end Go.Ev
