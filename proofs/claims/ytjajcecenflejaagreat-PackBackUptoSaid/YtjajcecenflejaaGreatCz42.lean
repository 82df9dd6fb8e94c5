/- YtjajcecenflejaaGreatCz42 -/
import Derived.Test.YtjajcecenflejaaGreatCz41
import Derived.Lib.UnsafeStr
import Derived.Test.YtjajcecenflejaaGreatCz40
namespace Go.Ev
open Go.RowKit
def Strings (P : Program) (g t e8 : Nat) : Prop := (∀ (b : Nat) (p : Value) (w : World), w.heap[b]? = some (.cells #[p, .slice none 0 0] t (0, 0)) → Calls P g #[.pointer (some ⟨b, 0, none⟩)] w fun e w' => e = .returned (.string ⟨#[]⟩) ∧ w' = w.drew) ∧
  ∀ (b k cap : Nat) (p : Value) (cur : Array Value) (l : List UInt8) (w : World), w.heap[b]? = some (.cells #[p, .slice (some ⟨k, 0, none⟩) l.length cap] t (0, 0)) → w.heap[k]? = some (.cells cur e8 (0, 0)) → l ≠ [] → l.length ≤ cap → l.length ≤ cur.size → l.length ≤ 1000000000000 →
    (∀ j x, l[j]? = some x → w.cell? ⟨k, j, none⟩ = some (.int .u8 x.toNat)) → Calls P g #[.pointer (some ⟨b, 0, none⟩)] w fun e w' => e = .returned (.string ⟨l.toArray⟩) ∧ w' = w.drew.freeze ⟨k, 0, none⟩ l.length
section
variable {P : Program} {B : Nat → Prop} {W : World}
end
end Go.Ev
namespace Go.Ev
open Go.RowKit
noncomputable def toldN (L L1 : Hl) (v1 v : AV) (s : S) : Bool := bif avEq 20 v v1 then (bif keepH L s.h then keepH L1 s.h else false) else false
end Go.Ev
