/- expr: what a text is read as. The mathematics of Parse; of no program. -/
import Derived.Test.YtfbcafapnagjfaaDoorExD
namespace Go.Proofs.YtfbcafapnagjfaaDoor
open Go.RowKit

def skipN (t : List UInt8) (i : Nat) : Nat := i + ((t.drop i).takeWhile fun c => c == 32).length
def peek (t : List UInt8) (j : Nat) : UInt8 := t.getD j 0
def runL (lo hi : UInt8) (t : List UInt8) (j : Nat) : List UInt8 := (t.drop j).takeWhile (inC lo hi)

theorem drop_cons {t : List UInt8} {k : Nat} (h : k < t.length) : t.drop k = peek t k :: t.drop (k + 1) := by
  rw [List.drop_eq_getElem_cons h]; unfold peek; rw [List.getD_eq_getElem?_getD, List.getElem?_eq_getElem h]; rfl
theorem skip_step {t : List UInt8} {k : Nat} (h : k < t.length) (h32 : peek t k = 32) : skipN t (k + 1) = skipN t k := by
  unfold skipN
  rw [drop_cons h, h32, List.takeWhile_cons_of_pos (by decide), List.length_cons]; omega
theorem skip_stop {t : List UInt8} {k : Nat} (h : k < t.length → peek t k ≠ 32) : skipN t k = k := by
  unfold skipN
  by_cases hk : k < t.length
  · rw [drop_cons hk, List.takeWhile_cons_of_neg (by simpa using h hk)]; rfl
  · rw [List.drop_eq_nil_of_le (by omega)]; rfl
theorem skip_le {t : List UInt8} {k : Nat} (h : k ≤ t.length) : skipN t k ≤ t.length := by
  unfold skipN
  have := (List.takeWhile_sublist (p := fun c => c == 32) (l := t.drop k)).length_le
  rw [List.length_drop] at this; omega
theorem skip_ge (t : List UInt8) (k : Nat) : k ≤ skipN t k := by unfold skipN; omega
theorem peek_end {t : List UInt8} {k : Nat} (h : t.length ≤ k) : peek t k = 0 := by
  unfold peek; rw [List.getD_eq_getElem?_getD, List.getElem?_eq_none h]; rfl
theorem peek_lt {t : List UInt8} {k : Nat} (h : peek t k ≠ 0) : k < t.length := by
  by_cases hk : k < t.length
  · exact hk
  · exact absurd (peek_end (by omega)) h
theorem run_step {lo hi : UInt8} {t : List UInt8} {k : Nat} (h : k < t.length) (hin : inC lo hi (peek t k) = true) : runL lo hi t k = peek t k :: runL lo hi t (k + 1) := by
  unfold runL; rw [drop_cons h, List.takeWhile_cons_of_pos hin]
theorem run_stop {lo hi : UInt8} {t : List UInt8} {k : Nat} (h : k < t.length → inC lo hi (peek t k) = false) : runL lo hi t k = [] := by
  unfold runL
  by_cases hk : k < t.length
  · rw [drop_cons hk, List.takeWhile_cons_of_neg (by rw [h hk]; simp)]
  · rw [List.drop_eq_nil_of_le (by omega)]; rfl
theorem run_len (lo hi : UInt8) {t : List UInt8} {k : Nat} (h : k ≤ t.length) : k + (runL lo hi t k).length ≤ t.length := by
  unfold runL
  have := (List.takeWhile_sublist (p := inC lo hi) (l := t.drop k)).length_le
  rw [List.length_drop] at this; omega
theorem run_take (lo hi : UInt8) (t : List UInt8) (k : Nat) : (t.drop k).take (runL lo hi t k).length = runL lo hi t k := by
  unfold runL
  exact (List.prefix_iff_eq_take.1 (List.takeWhile_prefix _)).symm

/-- a text of bytes -/
def baOf (l : List UInt8) : ByteArray := ⟨l.toArray⟩
/-- the number that digits tell, at most 2^20 -/
def numF : Int → List UInt8 → Int
  | n, [] => n
  | n, c :: l => numF (min (n * 10 + ((c.toNat : Int) - 48)) 1048576) l
def numBad (m : List UInt8) : Bool := decide (m = []) || (decide (m.head? = some 48) && !decide (m = [48]))
/-- a number, from place i on; and the place behind it, or where it is missing -/
def numP (t : List UInt8) (i : Nat) : Option Int × Nat :=
  let j := skipN t i
  let m := runL 48 57 t j
  if numBad m then (none, j) else (some (numF 0 m), j + m.length)
def upP (t : List UInt8) (i : Nat) : Option Int × Nat :=
  let j := skipN t i
  if peek t j = 125 then (some (-1), j) else numP t j
/-- sign c next? the place behind it, or before it -/
def takeP (c : UInt8) (t : List UInt8) (i : Nat) : Bool × Nat :=
  let j := skipN t i
  if peek t j = c then (true, j + 1) else (false, j)
/-- behind the upper number: the closing sign, and the two fit -/
def brcEnd (t : List UInt8) (i : Nat) (a b : Int) (k : Nat) : Option (Int × Int) × Nat :=
  if (takeP 125 t k).1 then (if timesB a b then (some (a, b), (takeP 125 t k).2) else (none, i)) else (none, (takeP 125 t k).2)
/-- what stands in braces, which open at place i -/
def brcP (t : List UInt8) (i : Nat) : Option (Int × Int) × Nat :=
  match numP t (i + 1) with
  | (none, k) => (none, k)
  | (some a, k) =>
    if (takeP 44 t k).1 then
      match upP t (takeP 44 t k).2 with
      | (none, k2) => (none, k2)
      | (some b, k2) => brcEnd t i a b k2
    else brcEnd t i a a (takeP 44 t k).2
def signP (c : UInt8) : Option (Int × Int) := if c = 42 then some (0, -1) else if c = 43 then some (1, -1) else if c = 63 then some (0, 1) else none
def manyE (a b : Int) (e : Ex) : Ex := .mk 4 (baOf []) a b [e]
def oneP (t : List UInt8) (ch : Nat → Option Ex × Nat) (i : Nat) : Option Ex × Nat :=
  if (takeP 40 t i).1 then
    match ch (takeP 40 t i).2 with
    | (none, k) => (none, k)
    | (some e, k) => if (takeP 41 t k).1 then (some e, (takeP 41 t k).2) else (none, (takeP 41 t k).2)
  else
    let m := runL 97 122 t (skipN t i)
    if nameB (baOf m) then (some (.mk 1 (baOf m) 0 0 []), skipN t i + m.length) else (none, skipN t i)
def manyP (t : List UInt8) (ch : Nat → Option Ex × Nat) (i : Nat) : Option Ex × Nat :=
  match oneP t ch i with
  | (none, k) => (none, k)
  | (some e, k) =>
    let j := skipN t k
    match signP (peek t j) with
    | some (a, b) => (some (manyE a b e), j + 1)
    | none =>
      if peek t j = 123 then
        match brcP t j with
        | (none, k2) => (none, k2)
        | (some (a, b), k2) => (some (manyE a b e), k2)
      else (some e, j)
def withE (kind : Int) (ks : List Ex) (e : Ex) : List Ex := if e.k = kind then ks ++ e.l else ks ++ [e]
def listE (kind : Int) : List Ex → Ex
  | [e] => e
  | ks => .mk kind (baOf []) 0 0 ks
def letB (c : UInt8) : Bool := inC 97 122 c
def rowP (t : List UInt8) (it : Nat → Option Ex × Nat) : Nat → List Ex → Nat → Option Ex × Nat
  | 0, _, i => (none, i)
  | f + 1, ks, i =>
    match it i with
    | (none, k) => (none, k)
    | (some e, k) =>
      let j := skipN t k
      if !decide (peek t j = 40) && !letB (peek t j) then (some (listE 2 (withE 2 ks e)), j) else rowP t it f (withE 2 ks e) j
def altP (t : List UInt8) (it : Nat → Option Ex × Nat) : Nat → List Ex → Nat → Option Ex × Nat
  | 0, _, i => (none, i)
  | f + 1, ks, i =>
    match it i with
    | (none, k) => (none, k)
    | (some e, k) =>
      if (takeP 124 t k).1 then altP t it f (withE 3 ks e) (takeP 124 t k).2 else (some (listE 3 (withE 3 ks e)), (takeP 124 t k).2)
def chP (t : List UInt8) : Nat → Nat → Option Ex × Nat
  | 0, i => (none, i)
  | n + 1, i => altP t (fun i => rowP t (manyP t (chP t n)) (t.length + 1) [] i) (t.length + 1) [] i
def wholeP (t : List UInt8) : Option Ex × Nat :=
  if skipN t 0 = t.length then (some (.mk 2 (baOf []) 0 0 []), t.length)
  else match chP t (t.length + 1) (skipN t 0) with
    | (none, k) => (none, k)
    | (some e, k) => if k = t.length then (some e, k) else (none, k)
/-- Parse: the expression, the place, the error -/
def parseP (t : List UInt8) : Option Ex × Int × Int :=
  if 1024 < t.length then (none, -1, 3)
  else match wholeP t with
    | (none, k) => (none, k, 4)
    | (some e, _) => if checkE e = 0 then (some e, 0, 0) else (none, -1, checkE e)
end Go.Proofs.YtfbcafapnagjfaaDoor
