/- YtjajcecenflejaaGreatCz40 -/
import Derived.Test.YtjajcecenflejaaGreatCz39
namespace Go.Ev
open Go.RowKit
abbrev Km := PT Ps
abbrev Hl := List (Ps × AO)
noncomputable def aoEq (o o' : AO) : Bool := match o, o' with
  | .cells c e ex, .cells c' e' ex' => bif Nat.beq e e' then (bif (bif ex then ex' else !ex') then eqL (avEq 20) c c' else false) else false
  | .map es c, .map es' c' => bif Nat.beq c c' then eqL (fun (e e' : AV × AV × Nat) => bif avEq 20 e.1 e'.1 then (bif avEq 20 e.2.1 e'.2.1 then Nat.beq e.2.2 e'.2.2 else false) else false) es es' else false
  | .ro c e, .ro c' e' => bif Nat.beq e e' then eqL (avEq 20) c c' else false
  | _, _ => false
noncomputable def keepH (L : Hl) (h : PT AO) : Bool := List.rec true (fun p _ ih => match h.get p.1 with
  | some o' => bif aoEq p.2 o' then ih else false
  | none => false) L
section
variable {m : Km} {R R0 : Rf}
end
end Go.Ev
namespace Go.Ev
open Go.RowKit
section
variable {m : Km} {R R0 : Rf}
end
end Go.Ev
