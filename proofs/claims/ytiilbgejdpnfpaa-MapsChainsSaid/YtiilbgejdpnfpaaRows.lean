/-
  No cell of these rows narrows 'for every input' (looked for: loops, veiled, ifaces, maps, wideKeys, modest, calm, conditions, laid).
  DERIVED. THE GIVEN ROWS OF THIS SEAT. 5 by the template 'for every input the law returns true; each argument reads behind the call as it read before'; 0 by the template 'total and deterministic' (their statements: YtiilbgejdpnfpaaTotals.lean).
  GIVEN WITH THE SEED: the statements are not yours to turn. If you find one false, say at which input.
  Laid BY PROGRAM, IN A SANDBOX (cutbox-rows.mjs): the forced cells as the released guide's own fill.sh prints them over the translation 2d6edabc4ed21ed8… (all of the seat's roots in one cut). By AI agents, Wed Nov 11 2026. No macro, syntax, notation, axiom, sorry.
-/
import Derived.Test.YtiilbgejdpnfpaaChecked
import GoSem.Claim
import GoSem.ClaimJoined
import GoSem.ClaimMapViews
import Derived.JoinedTies
import Derived.KernelRfl
namespace Go.Proofs.Ytiilbgejdpnfpaa
/- THE CELL 'sum', in the pinned program and in every row, IS THE sha256 OF THE DUMP (.gsa) THAT YtiilbgejdpnfpaaProg.lean LOADS. Nothing in Lean hashes anything: it is a label: what it is worth is what the hold of that sum in a sandbox is worth. -/
noncomputable def Try.pinned : Pinned := { name := "ytiilbgejdpnfpaa", sum := "2d6edabc4ed21ed87bc91c388f619e770ac2dc75f3c428785562f17f15ee8138", checked := Try.checked }
namespace Rows
def none {H : Type} : Left H := { results := [], args := [] }

/-- 'copydesklaw10.MapsNames': WHATEVER THE INPUT: true; the input reads as it did. -/
def mapsNamesSpec : ChangeSpec := { name := "mapsNames", fn := fun _ => fun
  | [] => { results := [.lit (.bool true)], args := [] }
  | _ => none }
def mapsNamesRow : OpenClaim := { program := "ytiilbgejdpnfpaa", sum := "2d6edabc4ed21ed87bc91c388f619e770ac2dc75f3c428785562f17f15ee8138", func := "copydesk/copydesklaw10.MapsNames", spec := "mapsNames", apart := false }
def MapsNamesSaid : Prop := mapsNamesRow.holds Try.pinned (OpenSpec.ofChange mapsNamesSpec)

/-- ITS FALSE NEIGHBOUR: 'it returns false'. Refute it at one input. -/
def mapsNamesWrong : ChangeSpec := { name := "mapsNames", fn := fun _ => fun
  | [] => { results := [.lit (.bool false)], args := [] }
  | _ => none }
def MapsNamesWrongFalsely : Prop := mapsNamesRow.holds Try.pinned (OpenSpec.ofChange mapsNamesWrong)

/-- 'copydesklaw10.MapsCalls': WHATEVER THE INPUT: true; the input reads as it did. -/
def mapsCallsSpec : ChangeSpec := { name := "mapsCalls", fn := fun _ => fun
  | [d1, d2, d3, d4] => { results := [.lit (.bool true)], args := [d1, d2, d3, d4] }
  | _ => none }
def mapsCallsRow : OpenClaim := { program := "ytiilbgejdpnfpaa", sum := "2d6edabc4ed21ed87bc91c388f619e770ac2dc75f3c428785562f17f15ee8138", func := "copydesk/copydesklaw10.MapsCalls", spec := "mapsCalls", apart := false }
def MapsCallsSaid : Prop := mapsCallsRow.holds Try.pinned (OpenSpec.ofChange mapsCallsSpec)

/-- ITS FALSE NEIGHBOUR: 'it returns false'. Refute it at one input. -/
def mapsCallsWrong : ChangeSpec := { name := "mapsCalls", fn := fun _ => fun
  | [d1, d2, d3, d4] => { results := [.lit (.bool false)], args := [d1, d2, d3, d4] }
  | _ => none }
def MapsCallsWrongFalsely : Prop := mapsCallsRow.holds Try.pinned (OpenSpec.ofChange mapsCallsWrong)

/-- 'copydesklaw10.MapsChains': WHATEVER THE INPUT: true; the input reads as it did. -/
def mapsChainsSpec : ChangeSpec := { name := "mapsChains", fn := fun _ => fun
  | [d1, d2, d3] => { results := [.lit (.bool true)], args := [d1, d2, d3] }
  | _ => none }
def mapsChainsRow : OpenClaim := { program := "ytiilbgejdpnfpaa", sum := "2d6edabc4ed21ed87bc91c388f619e770ac2dc75f3c428785562f17f15ee8138", func := "copydesk/copydesklaw10.MapsChains", spec := "mapsChains", apart := false }
def MapsChainsSaid : Prop := mapsChainsRow.holds Try.pinned (OpenSpec.ofChange mapsChainsSpec)

/-- ITS FALSE NEIGHBOUR: 'it returns false'. Refute it at one input. -/
def mapsChainsWrong : ChangeSpec := { name := "mapsChains", fn := fun _ => fun
  | [d1, d2, d3] => { results := [.lit (.bool false)], args := [d1, d2, d3] }
  | _ => none }
def MapsChainsWrongFalsely : Prop := mapsChainsRow.holds Try.pinned (OpenSpec.ofChange mapsChainsWrong)

/-- 'copydesklaw10.MapsTurned': WHATEVER THE INPUT: true; the input reads as it did. -/
def mapsTurnedSpec : ChangeSpec := { name := "mapsTurned", fn := fun _ => fun
  | [d1, d2, d3] => { results := [.lit (.bool true)], args := [d1, d2, d3] }
  | _ => none }
def mapsTurnedRow : OpenClaim := { program := "ytiilbgejdpnfpaa", sum := "2d6edabc4ed21ed87bc91c388f619e770ac2dc75f3c428785562f17f15ee8138", func := "copydesk/copydesklaw10.MapsTurned", spec := "mapsTurned", apart := false }
def MapsTurnedSaid : Prop := mapsTurnedRow.holds Try.pinned (OpenSpec.ofChange mapsTurnedSpec)

/-- ITS FALSE NEIGHBOUR: 'it returns false'. Refute it at one input. -/
def mapsTurnedWrong : ChangeSpec := { name := "mapsTurned", fn := fun _ => fun
  | [d1, d2, d3] => { results := [.lit (.bool false)], args := [d1, d2, d3] }
  | _ => none }
def MapsTurnedWrongFalsely : Prop := mapsTurnedRow.holds Try.pinned (OpenSpec.ofChange mapsTurnedWrong)

/-- 'copydesklaw10.MapsOrder': WHATEVER THE INPUT: true; the input reads as it did. -/
def mapsOrderSpec : ChangeSpec := { name := "mapsOrder", fn := fun _ => fun
  | [d1, d2, d3, d4] => { results := [.lit (.bool true)], args := [d1, d2, d3, d4] }
  | _ => none }
def mapsOrderRow : OpenClaim := { program := "ytiilbgejdpnfpaa", sum := "2d6edabc4ed21ed87bc91c388f619e770ac2dc75f3c428785562f17f15ee8138", func := "copydesk/copydesklaw10.MapsOrder", spec := "mapsOrder", apart := false }
def MapsOrderSaid : Prop := mapsOrderRow.holds Try.pinned (OpenSpec.ofChange mapsOrderSpec)

/-- ITS FALSE NEIGHBOUR: 'it returns false'. Refute it at one input. -/
def mapsOrderWrong : ChangeSpec := { name := "mapsOrder", fn := fun _ => fun
  | [d1, d2, d3, d4] => { results := [.lit (.bool false)], args := [d1, d2, d3, d4] }
  | _ => none }
def MapsOrderWrongFalsely : Prop := mapsOrderRow.holds Try.pinned (OpenSpec.ofChange mapsOrderWrong)

/- THE SECOND FORM. 'bulk': how many values and letters a reading holds, each counted each time it is reached (what is shared counts as often as it is met; a slice's spare places count too). A statement '..UptoSaid' is the law's where the arguments, and the package variables that the reading takes, are together of bulk at most 1048576: NARROWER than '..Said'. Prove '..Said' where nothing that the law and all that it calls make is longer than what came in: it says more and counts as full. Else prove '..UptoSaid'. A law counts once. -/
mutual
def uptoBulk {H : Type} : DataW H → Nat
  | .lit (.string bytes) => bytes.length + 1
  | .lit _ => 1
  | .nil => 1
  | .ptr d => uptoBulk d + 1
  | .slice elems spare => uptoBulkAll elems + uptoBulkAll spare + 1
  | .agg parts => uptoBulkAll parts + 1
  | .iface _ d => uptoBulk d + 1
  | .map entries => uptoBulkEntries entries + 1
  | .held _ => 1
def uptoBulkAll {H : Type} : List (DataW H) → Nat
  | [] => 0
  | d :: r => uptoBulk d + uptoBulkAll r
def uptoBulkEntries {H : Type} : List (Lit × DataW H) → Nat
  | [] => 0
  | x :: r => uptoBulkEntry x + uptoBulkEntries r
def uptoBulkEntry {H : Type} : Lit × DataW H → Nat
  | (.string bytes, d) => bytes.length + uptoBulk d + 1
  | (_, d) => uptoBulk d + 1
 end
def uptoSmall : (H : Type) → List (DataW H) → Bool := fun _ ds => decide (uptoBulkAll ds ≤ 1048576)
def OpenSpec.upto (s : _root_.Go.ChangeSpec) : _root_.Go.OpenSpec := { _root_.Go.OpenSpec.ofChange s with cond := some uptoSmall }

/-- 'copydesklaw10.MapsNames', WHERE WHAT IT READS IS OF BULK AT MOST 1048576: true; the input reads as it did. -/
def mapsNamesUptoRow : OpenClaim := { program := "ytiilbgejdpnfpaa", sum := "2d6edabc4ed21ed87bc91c388f619e770ac2dc75f3c428785562f17f15ee8138", func := "copydesk/copydesklaw10.MapsNames", spec := "mapsNames", apart := false, narrowed := true }
def MapsNamesUptoSaid : Prop := mapsNamesUptoRow.holds Try.pinned (OpenSpec.upto mapsNamesSpec)

/-- 'copydesklaw10.MapsCalls', WHERE WHAT IT READS IS OF BULK AT MOST 1048576: true; the input reads as it did. -/
def mapsCallsUptoRow : OpenClaim := { program := "ytiilbgejdpnfpaa", sum := "2d6edabc4ed21ed87bc91c388f619e770ac2dc75f3c428785562f17f15ee8138", func := "copydesk/copydesklaw10.MapsCalls", spec := "mapsCalls", apart := false, narrowed := true }
def MapsCallsUptoSaid : Prop := mapsCallsUptoRow.holds Try.pinned (OpenSpec.upto mapsCallsSpec)

/-- 'copydesklaw10.MapsChains', WHERE WHAT IT READS IS OF BULK AT MOST 1048576: true; the input reads as it did. -/
def mapsChainsUptoRow : OpenClaim := { program := "ytiilbgejdpnfpaa", sum := "2d6edabc4ed21ed87bc91c388f619e770ac2dc75f3c428785562f17f15ee8138", func := "copydesk/copydesklaw10.MapsChains", spec := "mapsChains", apart := false, narrowed := true }
def MapsChainsUptoSaid : Prop := mapsChainsUptoRow.holds Try.pinned (OpenSpec.upto mapsChainsSpec)

/-- 'copydesklaw10.MapsTurned', WHERE WHAT IT READS IS OF BULK AT MOST 1048576: true; the input reads as it did. -/
def mapsTurnedUptoRow : OpenClaim := { program := "ytiilbgejdpnfpaa", sum := "2d6edabc4ed21ed87bc91c388f619e770ac2dc75f3c428785562f17f15ee8138", func := "copydesk/copydesklaw10.MapsTurned", spec := "mapsTurned", apart := false, narrowed := true }
def MapsTurnedUptoSaid : Prop := mapsTurnedUptoRow.holds Try.pinned (OpenSpec.upto mapsTurnedSpec)

/-- 'copydesklaw10.MapsOrder', WHERE WHAT IT READS IS OF BULK AT MOST 1048576: true; the input reads as it did. -/
def mapsOrderUptoRow : OpenClaim := { program := "ytiilbgejdpnfpaa", sum := "2d6edabc4ed21ed87bc91c388f619e770ac2dc75f3c428785562f17f15ee8138", func := "copydesk/copydesklaw10.MapsOrder", spec := "mapsOrder", apart := false, narrowed := true }
def MapsOrderUptoSaid : Prop := mapsOrderUptoRow.holds Try.pinned (OpenSpec.upto mapsOrderSpec)

end Rows
end Go.Proofs.Ytiilbgejdpnfpaa
