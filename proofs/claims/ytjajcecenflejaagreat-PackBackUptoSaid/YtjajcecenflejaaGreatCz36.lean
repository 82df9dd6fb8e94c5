/- YtjajcecenflejaaGreatCz36 -/
import Derived.Test.YtjajcecenflejaaGreatCz35
namespace Go.Ev
inductive Cl (α : Type) where | mk (f : α)
noncomputable def downG (l : List Oper) : Nat → Bool := List.rec (fun _ => true) (fun o _ ih j => bif Nat.ble (maskE o + 1) (2 ^ j) then ih (j + 1) else false) l
theorem downG_spec : ∀ {l : List Oper} {k : Nat}, downG l k = true → ∀ j o, l[j]? = some o → maskE o < 2 ^ (k + j)
  | [], _, _, j, o, h => by simp at h
  | a :: l, k, hd, j, o, h => by
    have hd' : (bif Nat.ble (maskE a + 1) (2 ^ k) then downG l (k + 1) else false) = true := hd
    cases hb : Nat.ble (maskE a + 1) (2 ^ k) with
    | false => rw [hb] at hd'; cases hd'
    | true =>
      rw [hb, cond_true] at hd'
      cases j with
      | zero => simp at h; subst h; exact ble_le hb
      | succ j => have := downG_spec hd' j o (by simpa using h); rwa [show k + 1 + j = k + (j + 1) by omega] at this
theorem down_waits {ops : Array Oper} (h : downG ops.toList 0 = true) (j i : Nat) (hw : Waits ops j i) : i < j := by
  obtain ⟨o, ho, e, he, hb, rfl⟩ := hw
  have h1 := downG_spec h j o (by rw [Array.getElem?_toList]; exact ho)
  rw [Nat.zero_add] at h1
  have h2 := (maskE_bit o e.on).2 ⟨e, he, hb, rfl⟩
  refine Classical.byContradiction fun hn => ?_
  have h3 : (maskE o).testBit e.on = false := Nat.testBit_lt_two_pow (Nat.lt_of_lt_of_le h1 (Nat.pow_le_pow_right (by decide) (by omega)))
  rw [h2] at h3; cases h3
noncomputable def tb (V i : Nat) : Bool := Nat.beq (Nat.land (Nat.shiftRight V i) 1) 1
theorem tb_eq (V i : Nat) : tb V i = Nat.testBit V i := by
  unfold tb
  rw [beq_dec, Nat.testBit_eq_decide_div_mod_eq]
  have h : Nat.land (Nat.shiftRight V i) 1 = V / 2 ^ i % 2 := by
    show (V >>> i) &&& 1 = _
    rw [Nat.and_one_is_mod, Nat.shiftRight_eq_div_pow]
  rw [h]
theorem rec_cond {α : Type} (b : Bool) (x y : α) : (Bool.rec x y b : α) = bif b then y else x := by cases b <;> rfl
noncomputable def rdyF (V : Nat) (l : List Oper) : Nat → List Nat :=
  List.rec (fun _ => []) (fun o _ ih i => Bool.rec (Bool.rec (ih (Nat.succ i)) (i :: ih (Nat.succ i)) (Nat.beq (Nat.land (maskE o) V) (maskE o))) (ih (Nat.succ i)) (tb V i)) l
theorem rdyF_eq (V : Nat) : ∀ (l : List Oper) (i : Nat), rdyF V l i = rdyG V l i
  | [], _ => rfl
  | o :: l, i => by
    have ih := rdyF_eq V l (i + 1)
    show (Bool.rec (Bool.rec (rdyF V l (i + 1)) (i :: rdyF V l (i + 1)) (goodM o V)) (rdyF V l (i + 1)) (tb V i) : List Nat) = (bif Nat.testBit V i then rdyG V l (i + 1) else (bif goodM o V then i :: rdyG V l (i + 1) else rdyG V l (i + 1)))
    rw [ih, tb_eq, rec_cond, rec_cond]
noncomputable def memF (t : Nat) (l : List Nat) : Bool := List.rec false (fun x _ ih => Bool.rec ih true (Nat.beq x t)) l
theorem memF_eq (t : Nat) : ∀ l, memF t l = memT t l
  | [] => rfl
  | x :: l => by
    show (Bool.rec (memF t l) true (Nat.beq x t) : Bool) = (bif Nat.beq x t then true else memT t l)
    rw [memF_eq t l, rec_cond]
noncomputable def othersF (ops : List Oper) (i : Nat) (d : Tmp) (l : List Oper) : Nat → Bool :=
  List.rec (fun _ => true) (fun o _ ih j => Bool.rec (Bool.rec (Bool.rec (ih (Nat.succ j)) (Bool.rec false (ih (Nat.succ j)) (tb (maskE o) i)) (memF d (looksL ops o))) false (dstIs o d)) (ih (Nat.succ j)) (Nat.beq j i)) l
theorem othersF_eq (ops : List Oper) (i : Nat) (d : Tmp) : ∀ (l : List Oper) (j : Nat), othersF ops i d l j = othersOk ops i d l j
  | [], _ => rfl
  | o :: l, j => by
    have ih := othersF_eq ops i d l (j + 1)
    show (Bool.rec (Bool.rec (Bool.rec (othersF ops i d l (j + 1)) (Bool.rec false (othersF ops i d l (j + 1)) (tb (maskE o) i)) (memF d (looksL ops o))) false (dstIs o d)) (othersF ops i d l (j + 1)) (Nat.beq j i) : Bool) =
      (bif Nat.beq j i then othersOk ops i d l (j + 1) else (bif dstIs o d then false else (bif memT d (looksL ops o) then (bif Nat.testBit (maskE o) i then othersOk ops i d l (j + 1) else false) else othersOk ops i d l (j + 1))))
    rw [ih, tb_eq, memF_eq, rec_cond, rec_cond, rec_cond, rec_cond]
noncomputable def qokF (ops : List Oper) (i : Nat) : Bool := match nth ops i with
  | some o => Bool.rec false (match o.dst with
    | some d => Bool.rec (othersF ops i d ops 0) false (memF d (looksL ops o))
    | none => true) (kindQ o.op)
  | none => false
theorem qokF_eq (ops : List Oper) (i : Nat) : qokF ops i = qok ops i := by
  unfold qokF qok
  cases nth ops i with
  | none => rfl
  | some o =>
    dsimp only
    rw [rec_cond]
    cases o.dst with
    | none => rfl
    | some d => dsimp only; rw [rec_cond, othersF_eq, memF_eq]
noncomputable def findF (ops : List Oper) (l : List Nat) : Option Nat := List.rec none (fun i _ ih => Bool.rec ih (some i) (qokF ops i)) l
theorem findF_eq (ops : List Oper) : ∀ l, findF ops l = findQ ops l
  | [] => rfl
  | i :: l => by
    show (Bool.rec (findF ops l) (some i) (qokF ops i) : Option Nat) = (bif qok ops i then some i else findQ ops l)
    rw [findF_eq ops l, qokF_eq, rec_cond]
structure Pr (α β : Type) where
  a : α
  b : β
abbrev TT (n : Nat) : Type := Nat.rec (motive := fun _ => Type) AV (fun _ T => Pr T T) n
noncomputable def getN (n : Nat) : Nat → TT n → AV := Nat.rec (motive := fun n => Nat → TT n → AV) (fun _ x => x) (fun _ ih t x => Bool.rec (ih (t / 2) (Pr.b x)) (ih (t / 2) (Pr.a x)) (Nat.beq (t % 2) 0)) n
noncomputable def setN (n : Nat) : Nat → AV → TT n → TT n := Nat.rec (motive := fun n => Nat → AV → TT n → TT n) (fun _ v _ => v) (fun _ ih t v x => Bool.rec (motive := fun _ => Pr _ _) ⟨Pr.a x, ih (t / 2) v (Pr.b x)⟩ ⟨ih (t / 2) v (Pr.a x), Pr.b x⟩ (Nat.beq (t % 2) 0)) n
noncomputable def gC (n : Nat) : Nat → Cl (TT n → AV) := Nat.rec (motive := fun n => Nat → Cl (TT n → AV)) (fun _ => .mk fun x => x) (fun _ ih t => Cl.rec (fun g => Bool.rec (.mk fun x => g (Pr.b x)) (.mk fun x => g (Pr.a x)) (Nat.beq (t % 2) 0)) (ih (t / 2))) n
noncomputable def sC (n : Nat) : Nat → Cl (AV → TT n → TT n) := Nat.rec (motive := fun n => Nat → Cl (AV → TT n → TT n)) (fun _ => .mk fun v _ => v) (fun n ih t => Cl.rec (motive := fun _ => Cl (AV → Pr (TT n) (TT n) → Pr (TT n) (TT n))) (fun f => Bool.rec (.mk fun v x => ⟨Pr.a x, f v (Pr.b x)⟩) (.mk fun v x => ⟨f v (Pr.a x), Pr.b x⟩) (Nat.beq (t % 2) 0)) (ih (t / 2))) n
noncomputable def zN (n : Nat) : TT n := Nat.rec (motive := fun n => TT n) und (fun _ z => ⟨z, z⟩) n
noncomputable def frOf (n : Nat) (x : TT n) : Fr := fun t => Bool.rec und (getN n t x) (Nat.ble (Nat.succ t) (Nat.pow 2 n))
def yNo : Nat := 1000000
abbrev KV := AV → S → Bool
abbrev CF := FuncId → List AV → S → KV → Bool
section
variable (n : Nat)
abbrev K := TT n → S → Bool
abbrev Rn := CF → TT n → S → K n → Bool
variable (P : Program) (G : PT (List AV))
noncomputable def gx (x : Operand) : Option (Cl (TT n → AV)) := match x with
  | .tmp t => bif Nat.ble (Nat.succ t) (Nat.pow 2 n) then some (gC n t) else none
  | .const v => (match cvC 12 v with
    | some v => some (.mk fun _ => v)
    | none => none)
  | .global g => some (.mk fun _ => .gp g 0)
  | .func f => some (.mk fun _ => .f f [])
noncomputable def gxs (l : List Operand) : Option (Cl (TT n → List AV)) := List.rec (some (.mk fun _ => [])) (fun x _ ih => match gx n x with
  | some (.mk g) => (match ih with
    | some (.mk gs) => some (.mk fun X => g X :: gs X)
    | none => none)
  | none => none) l
abbrev Po := Cl (TT n → PT AO → Option AV)
noncomputable def intO (k : IntKind) (n : Int) : Option AV := fI n fun n => some (.i k n)
noncomputable def bI (op : BinOp) : Cl (IntKind → Int → Int → Option AV) := match op with
  | .add => .mk fun k a b => intO k (wr k (Int.add a b))
  | .sub => .mk fun k a b => intO k (wr k (Int.sub a b))
  | .eql => .mk fun _ a b => some (.b (iEq a b))
  | .neq => .mk fun _ a b => some (.b (!iEq a b))
  | .lss => .mk fun _ a b => some (.b (iLt a b))
  | .gtr => .mk fun _ a b => some (.b (iLt b a))
  | .leq => .mk fun _ a b => some (.b (!iLt b a))
  | .geq => .mk fun _ a b => some (.b (!iLt a b))
  | op => .mk fun k a b => binI op k a b
noncomputable def onII (u v : AV) (f : IntKind → Int → Int → Option AV) (g : Option AV) : Option AV := match u with
  | .i k a => (match v with
    | .i k' b => Bool.rec none (f k a b) (kEq k k')
    | _ => g)
  | _ => g
noncomputable def bB (op : BinOp) (t : TypeId) : Cl (AV → AV → Option AV) :=
  bif isSh op then .mk (fun u v => popBin P op t u v) else (match bI op with
    | .mk f => .mk fun u v => onII u v f (popBin P op t u v))
noncomputable def ptA (t : TypeId) (off : Nat) : Option (Cl (List AV → Option AV)) := match P.underlying t, P.info? t with
  | some _, some i => bif isAg P t then some (.mk fun c => some (.a (take (drop c off) i.size))) else some (.mk fun c => nth c off)
  | _, _ => none
noncomputable def onA (v : AV) (f : List AV → Option AV) : Option AV := match v with
  | .a c => f c
  | _ => none
noncomputable def onT (v : AV) (f : List AV → Option AV) : Option AV := match v with
  | .t c => f c
  | _ => none
noncomputable def onP (v : AV) (f : Ps → Nat → Option AV) (g : AV → Option AV) : Option AV := match v with
  | .p b o => f b o
  | v => g v
noncomputable def onL (v : AV) (f : Ps → Nat → Nat → Option AV) (g : AV → Option AV) : Option AV := match v with
  | .l b o n _ => f b o n
  | v => g v
noncomputable def onI (v : AV) (f : Nat → Option AV) : Option AV := match v with
  | .i _ (.ofNat n) => f n
  | _ => none
noncomputable def qvo (fr : Fr) (h : PT AO) (op : Op) : Option AV := match pop P fr op with
  | some v => some v
  | none => lop P G fr h op
noncomputable def slow (op : Op) : Po n := .mk fun X h => qvo P G (frOf n X) h op
noncomputable def nilV (v : AV) : Option AV := match v with
  | .p b o => some (.p b o)
  | .f g c => some (.f g c)
  | .fm g c => some (.fm g c)
  | _ => none
noncomputable def pickV (c a b : AV) : Option AV := match c with
  | .b x => some (Bool.rec b a x)
  | _ => none
noncomputable def notV (v : AV) : Option AV := match v with
  | .b b => some (.b (!b))
  | _ => none
noncomputable def lenS (v : AV) (g : Option AV) : Option AV := match v with
  | .l0 => some (.i .i64 0)
  | .l _ _ n _ => some (.i .i64 (.ofNat n))
  | _ => g
noncomputable def lenT (v : AV) (g : Option AV) : Option AV := match v with
  | .s l => fN (len l) fun n => some (.i .i64 (.ofNat n))
  | _ => g
noncomputable def fillC (place : Nat → Option (Nat × Nat)) (l : List (Nat × Operand)) : Option (Cl (TT n → List AV → Option (List AV))) := List.rec (some (.mk fun _ c => some c)) (fun p _ ih => match place p.1, gx n p.2 with
  | some (off, size), some (.mk g) => (match ih with
    | some (.mk r) => some (.mk fun X c => Bool.rec none (Option.rec none (fun c => r X c) (over (cellsA (g X)) c off)) (Nat.beq (len (cellsA (g X))) size))
    | none => none)
  | _, _ => none) l
noncomputable def okc (x : Option (List AV)) : Option AV := Option.rec none (fun c => some (.a c)) x
noncomputable def bdC (z : List AV) (place : Nat → Option (Nat × Nat)) (l : List (Nat × Operand)) (d : Po n) : Po n := match fillC n place l with
  | some (.mk r) => .mk fun X _ => okc (r X z)
  | none => d
noncomputable def slB (t : TypeId) (x : AV) (lo hi : Nat → Option Nat) : Option AV :=
  match x with
  | .s l => (match P.underlying t with
    | some .string => (match lo 0, hi (len l) with
      | some a, some b => bif Nat.ble a b then (bif Nat.ble b (len l) then some (.s (take (drop l a) (b - a))) else none) else none
      | _, _ => none)
    | _ => none)
  | .l b o n c => (match P.underlying t with
    | some (.slice e) => (match P.info? e, lo 0, hi n with
      | some i, some x, some y => bif Nat.ble x y then (bif Nat.ble y c then (bif Nat.ble (c + 1) (x + 1) then some (.le b o (o + x * i.size)) else some (.l b (o + x * i.size) (y - x) (c - x))) else none) else none
      | _, _, _ => none)
    | _ => none)
  | .l0 => (match P.underlying t with
    | some (.slice e) => (match P.info? e, lo 0, hi 0 with
      | some _, some 0, some 0 => some .l0
      | _, _, _ => none)
    | _ => none)
  | _ => none
noncomputable def bnC (x : Option Operand) : Option (Cl (TT n → Nat → Option Nat)) := match x with
  | none => some (.mk fun _ d => some d)
  | some x => (match gx n x with
    | some (.mk g) => some (.mk fun X _ => natOf (g X))
    | none => none)
noncomputable def lkV (t : TypeId) (h : PT AO) (x k : AV) (ok : Bool) : Option AV := match P.underlying t with
  | some (.map kt et) => bif ckA P 6 kt k then (match x, zerA P et with
        | .m0, some z => some (bif ok then .t [z, .b false] else z)
        | .m b, some z => (match h.get b with
          | some (.map es _) => (match findA P kt k es 0 with
            | some (some (_, v)) => some (bif ok then .t [v, .b true] else v)
            | some none => some (bif ok then .t [z, .b false] else z)
            | none => none)
          | _ => none)
        | _, _ => none) else none
  | _ => none
noncomputable def co (op : Op) : Po n := match op with
  | .move x => (match gx n x with | some (.mk g) => .mk (fun X _ => some (g X)) | none => slow n P G op)
  | .assign x => (match gx n x with | some (.mk g) => .mk (fun X _ => some (g X)) | none => slow n P G op)
  | .binOp b t x y _ => (match gx n x, gx n y, bB P b t with
    | some (.mk g), some (.mk g'), .mk f => .mk fun X _ => f (g X) (g' X)
    | _, _, _ => slow n P G op)
  | .field t x f => (match gx n x, P.underlying t with
    | some (.mk g), some (.struct fs) => (match nth fs.toList f with
      | some fl => (match ptA P fl.type fl.offset with
        | some (.mk p) => .mk fun X _ => onA (g X) p
        | none => slow n P G op)
      | none => slow n P G op)
    | _, _ => slow n P G op)
  | .fieldAddr t x f => (match gx n x, P.underlying t with
    | some (.mk g), some (.struct fs) => (match nth fs.toList f with
      | some fl => (match P.info? fl.type with
        | some i => bif Nat.beq i.size 0 then slow n P G op else .mk (fun X _ => onP (g X) (fun b o => some (.p b (Nat.add o fl.offset))) fun _ => none)
        | none => slow n P G op)
      | none => slow n P G op)
    | _, _ => slow n P G op)
  | .indexAddr t x i => (match gx n x, gx n i, P.underlying t with
    | some (.mk g), some (.mk g'), some (.slice e) => (match P.info? e with
      | some f => .mk fun X _ => onL (g X) (fun b o n => onI (g' X) fun i => Bool.rec none (some (.p b (Nat.add o (Nat.mul i f.size)))) (Nat.ble (Nat.succ i) n)) fun u => popIx P t u (g' X)
      | none => slow n P G op)
    | some (.mk g), some (.mk g'), _ => .mk fun X _ => popIx P t (g X) (g' X)
    | _, _, _ => slow n P G op)
  | .index t x i => (match gx n x, gx n i with
    | some (.mk g), some (.mk g') => .mk fun X _ => popIdx P t (g X) (g' X)
    | _, _ => slow n P G op)
  | .extract x j => (match gx n x with | some (.mk g) => .mk (fun X _ => onT (g X) fun c => nth c j) | none => slow n P G op)
  | .nilCheck x => (match gx n x with | some (.mk g) => .mk (fun X _ => nilV (g X)) | none => slow n P G op)
  | .pick c a b => (match gx n c, gx n a, gx n b with | some (.mk c), some (.mk a), some (.mk b) => .mk (fun X _ => pickV (c X) (a X) (b X)) | _, _, _ => slow n P G op)
  | .unOp .not _ x => (match gx n x with | some (.mk g) => .mk (fun X _ => notV (g X)) | none => slow n P G op)
  | .makeFunc (.func f) first c => (match first.toList, gxs n c.toList with
    | [], some (.mk gs) => .mk fun X _ => some (.f f (gs X))
    | _, _ => slow n P G op)
  | .slice t x lo hi none => (match gx n x, bnC n lo, bnC n hi with
    | some (.mk g), some (.mk l), some (.mk h) => .mk fun X _ => slB P t (g X) (l X) (h X)
    | _, _, _ => slow n P G op)
  | .build t ps => (match zerA P t, P.underlying t with
    | some z, some (.struct fs) => (match placesF P fs.toList with
      | some pl => bdC n (cellsA z) (fun i => nth pl i) ps.toList (slow n P G op)
      | none => slow n P G op)
    | _, _ => slow n P G op)
  | .load t x => (match gx n x, P.underlying t with
    | some (.mk g), some _ => bif isAg P t then (match P.info? t with
        | some i => .mk (fun X h => onP (g X) (fun b o => match ldN h b o i.size with
          | some l => some (.a l)
          | none => none) fun _ => none)
        | none => slow n P G op) else .mk (fun X h => onP (g X) (fun b o => ld1 h b o) fun _ => lop P G (frOf n X) h op)
    | _, _ => slow n P G op)
  | .lookup t x k ok => (match gx n x, gx n k with | some (.mk g), some (.mk g') => .mk (fun X h => lkV P t h (g X) (g' X) ok) | _, _ => slow n P G op)
  | .call c => (match c.callee, c.argTypes.toList, gxs n c.args.toList, c.args.toList with
    | .builtin .len, t :: _, _, [x] => (match gx n x, P.underlying t with
      | some (.mk g), some (.slice _) => .mk fun X h => lenS (g X) (qvo P G (frOf n X) h op)
      | some (.mk g), some .string => .mk fun X h => lenT (g X) (qvo P G (frOf n X) h op)
      | _, _ => slow n P G op)
    | .builtin b, ts, some (.mk gs), _ => .mk fun X h => (match popB P b ts (gs X) with
      | some v => some v
      | none => lop P G (frOf n X) h op)
    | _, _, _, _ => slow n P G op)
  | op => slow n P G op
abbrev Mo := Cl (TT n → S → Option (AV × S))
noncomputable def bsM (e : TypeId) (k : Nat) (c : Option (List AV)) (s : S) : Option (AV × S) := Option.rec none (fun c => match newO (.cells c e true) s with
  | some (p, s) => some (.l p 0 k k, s)
  | none => none) c
noncomputable def cm (op : Op) : Option (Mo n) := match op with
  | .alloc e => some (.mk fun _ s => mAlloc P s e)
  | .box e x => (match gx n x with | some (.mk g) => some (.mk fun X s => mBox s e (g X)) | none => none)
  | .buildSlice t k ps => (match P.underlying t with
    | some (.slice e) => (match P.info? e, zerA P e with
      | some i, some z => bif Nat.beq (len (cellsA z)) i.size then (bif Nat.ble (k * i.size) 16777216 then (match fillC n (fun j => some (j * i.size, i.size)) ps.toList with
          | some (.mk r) => some (.mk fun X s => bsM e k (r X (rep (cellsA z) k)) s)
          | none => none) else none) else none
      | _, _ => none)
    | _ => none)
  | .store t a x => (match gx n a, gx n x with | some (.mk g), some (.mk g') => some (.mk fun X s => mStore P s t (g X) (g' X)) | _, _ => none)
  | .makeMap t none => some (.mk fun _ s => mop P frU s (.makeMap t none))
  | .makeSlice t l c => (match gx n l, gx n c with | some (.mk g), some (.mk g') => some (.mk fun X s => mMakeS P s t (g X) (g' X)) | _, _ => none)
  | .mapUpdate t m k v => (match gx n m, gx n k, gx n v with | some (.mk g), some (.mk g'), some (.mk g2) => some (.mk fun X s => mMapU P s t (g X) (g' X) (g2 X)) | _, _, _ => none)
  | .insert t m k v => (match gx n m, gx n k, gx n v with | some (.mk g), some (.mk g'), some (.mk g2) => some (.mk fun X s => mMapU P s t (g X) (g' X) (g2 X)) | _, _, _ => none)
  | .range t x => (match gx n x with | some (.mk g) => some (.mk fun X s => mRange P s t (g X)) | none => none)
  | .call c => (match c.callee, c.argTypes.toList, c.args.toList with
    | .builtin .append, [t, t2], [x, y] => (match gx n x, gx n y with | some (.mk g), some (.mk g') => some (.mk fun X s => mApp P s t t2 (g X) (g' X)) | _, _ => none)
    | .builtin .copy, [t, _], [x, y] => (match gx n x, gx n y with | some (.mk g), some (.mk g') => some (.mk fun X s => mCopy P s t (g X) (g' X)) | _, _ => none)
    | _, _, _ => none)
  | _ => none
noncomputable def bsA (e : TypeId) (k : Nat) (c : Option (List AV)) : Option (AO × (Ps → AV)) := Option.rec none (fun c => some (.cells c e true, fun p => .l p 0 k k)) c
noncomputable def ca (op : Op) : Option (Cl (TT n → Option (AO × (Ps → AV)))) := match op with
  | .alloc e => (match zerA P e with
    | some z => some (.mk fun _ => some (.cells (cellsA z) e true, fun p => .p p 0))
    | none => none)
  | .box e x => (match gx n x with | some (.mk g) => some (.mk fun X => some (.cells (cellsA (g X)) e true, fun p => .p p 0)) | none => none)
  | .buildSlice t k ps => (match P.underlying t with
    | some (.slice e) => (match P.info? e, zerA P e with
      | some i, some z => bif Nat.beq (len (cellsA z)) i.size then (bif Nat.ble (k * i.size) 16777216 then (match fillC n (fun j => some (j * i.size, i.size)) ps.toList with
          | some (.mk r) => some (.mk fun X => bsA e k (r X (rep (cellsA z) k)))
          | none => none) else none) else none
      | _, _ => none)
    | _ => none)
  | op => some (.mk fun X => alq P (frOf n X) op)
noncomputable def bad : Rn n := fun _ _ _ _ => false
noncomputable def pd (N : Nat) (o : Oper) : Option (Cl (AV → TT n → TT n)) := match o.dst with
  | some t => bif Nat.ble (Nat.succ t) N then (bif Nat.ble (Nat.succ t) (Nat.pow 2 n) then some (sC n t) else none) else none
  | none => some (.mk fun _ X => X)
noncomputable def allK (k : KV) (l : List (AV × S)) : Bool := List.rec true (fun r _ ih => Bool.rec false ih (k r.1 r.2)) l
noncomputable def callD (P : Program) (f : AV) (vs : List AV) (cf : CF) (s : S) (k : KV) : Bool := match f with
  | .f g caps => Bool.rec (cf g (app vs caps) s k) false (Nat.beq g yNo)
  | .fm g v => Bool.rec (cf g (v :: vs) s k) false (Nat.beq g yNo)
  | .y b => cf yNo (.y b :: vs) s k
  | .mo t m => (match P.underlying t, moOf P t m, vs with
    | some (.pointer _), some (g, off), .p b o :: ws => (match ld1 s.h b (o + off) with
      | some v => Bool.rec (cf g (v :: ws) s k) false (Nat.beq g yNo)
      | none => false)
    | _, _, _ => false)
  | _ => false
noncomputable def nxV (v : AV) (s : S) (k : KV) : Bool := match v with
  | .p b 0 => (match evNext b s with
    | some l => allK k l
    | none => false)
  | _ => false
def isCo : Op → Bool
  | .move _ => true | .assign _ => true | .pick .. => true | .build .. => true | .nilCheck _ => true | .binOp .. => true | .unOp .. => true | .makeFunc .. => true
  | .slice .. => true | .fieldAddr .. => true | .indexAddr .. => true | .field .. => true | .index .. => true | .extract .. => true | .load .. => true | .lookup .. => true
  | .call c => (match c.callee with | .builtin .len => true | .builtin .min => true | .builtin .max => true | .builtin .cap => true | _ => false)
  | _ => false
noncomputable def opW (o : Oper) (p : AV → TT n → TT n) (rest : Rn n) : Cl (Rn n) := bif isCo o.op then (match co n P G o.op with
    | .mk f => .mk fun cf X s k => Option.rec false (fun v => rest cf (p v X) s k) (f X s.h)) else (match cm n P o.op with
    | some (.mk f) => .mk fun cf X s k => Option.rec false (fun r => rest cf (p r.1 X) r.2 k) (f X s)
    | none => match o.op with
      | .call c => (match c.callee, gxs n c.args.toList with
        | .value (.func g), some (.mk gs) => Bool.rec (.mk fun cf X s k => cf g (app (gs X) []) s fun v s' => rest cf (p v X) s' k) (.mk (bad n)) (Nat.beq g yNo)
        | .value f, some (.mk gs) => (match gx n f with
          | some (.mk g) => .mk fun cf X s k => callD P (g X) (gs X) cf s fun v s' => rest cf (p v X) s' k
          | none => .mk (bad n))
        | _, _ => .mk (bad n))
      | .next it false => (match gx n it with
        | some (.mk g) => .mk fun cf X s k => nxV (g X) s fun v s' => rest cf (p v X) s' k
        | none => .mk (bad n))
      | .convert .. => .mk fun cf X s k => Option.rec (Option.rec false (fun r => rest cf (p r.1 X) r.2 k) (mop P (frOf n X) s o.op)) (fun v => rest cf (p v X) s k) (qvo P G (frOf n X) s.h o.op)
      | _ => .mk (bad n))
noncomputable def isT (v : AV) : Bool := match v with
  | .b x => x
  | _ => false
noncomputable def isF (v : AV) : Bool := match v with
  | .b x => !x
  | _ => false
noncomputable def gd (ops : List Oper) (o : Oper) : Option (Option (Cl (TT n → Bool))) := match o.guard with
  | none => some none
  | some (j, w) => (match nth ops j with
    | some oj => (match oj.dst with
      | some t => bif Nat.ble (Nat.succ t) (Nat.pow 2 n) then (match gC n t with | .mk g => Bool.rec (some (some (.mk fun X => isF (g X)))) (some (some (.mk fun X => isT (g X)))) w) else none
      | none => none)
    | none => none)
noncomputable def gdW (ops : List Oper) (o : Oper) (p : AV → TT n → TT n) (rest : Rn n) (c : Cl (Rn n)) : Cl (Rn n) := match gd n ops o with
  | some none => c
  | some (some (.mk g)) => (match c with | .mk w => .mk fun cf X s k => Bool.rec (rest cf (p und X) s k) (w cf X s k) (g X))
  | none => .mk (bad n)
noncomputable def stp (ops : List Oper) (N : Nat) (o : Oper) (rest : Rn n) : Cl (Rn n) := match pd n N o with
  | some (.mk p) => gdW n ops o p rest (opW n P G o p rest)
  | none => .mk (bad n)
noncomputable def lnR (ops : List Oper) (N : Nat) (l : List Oper) : Cl (Rn n) := List.rec (.mk fun _ X s k => k X s) (fun o _ ih => match ih with | .mk r => stp n P G ops N o r) l
noncomputable def rechk (ops : List Oper) (oj : Oper) (T : List Nat) : Option (Option (Cl (TT n → S → Bool))) := List.rec (some none) (fun i _ ih => match ih with
  | some c => bif tb (maskE oj) i then some c else (match nth ops i with
    | some o => bif kP o.op then (bif still ops oj.dst o then some c else none) else (match o.dst with
      | some d => (match c with
        | some (.mk c) => some (some (.mk fun X s => match qv P G ops (frOf n X) s o with
          | some v => Bool.rec false (c X s) (avEq 20 (frOf n X d) v)
          | none => false))
        | none => some (some (.mk fun X s => match qv P G ops (frOf n X) s o with
          | some v => avEq 20 (frOf n X d) v
          | none => false)))
      | none => none)
    | none => none)
  | none => none) T
noncomputable def isAlq : Op → Bool
  | .alloc _ => true | .box .. => true | .buildSlice .. => true | .makeMap .. => true | .makeSlice .. => true
  | _ => false
noncomputable def thA (r : Option (AO × (Ps → AV))) (s : S) (k : KV) : Bool := Option.rec false (fun r => Option.rec false (fun q => k (r.2 q.1) q.2) (newO r.1 s)) r
noncomputable def telW (o : Oper) (p : AV → TT n → TT n) (rest : Rn n) : Cl (Rn n) := bif isAlq o.op then (match ca n P o.op with
    | some (.mk f) => .mk fun cf X s k => thA (f X) s fun v s' => rest cf (p v X) s' k
    | none => .mk (bad n)) else (match co n P G o.op with
    | .mk f => .mk fun cf X s k => Option.rec false (fun v => rest cf (p v X) s k) (f X s.h))
noncomputable def tel (ops : List Oper) (N : Nat) (o : Oper) (rest : Rn n) : Cl (Rn n) := match pd n N o with
  | some (.mk p) => gdW n ops o p rest (telW n P G o p rest)
  | none => .mk (bad n)
noncomputable def lou (ops : List Oper) (N : Nat) (T : List Nat) (o : Oper) (rest : Rn n) : Cl (Rn n) := match rechk n P G ops o T with
  | some none => stp n P G ops N o rest
  | some (some (.mk c)) => stp n P G ops N o fun cf X s k => Bool.rec false (rest cf X s k) (c X s)
  | none => .mk (bad n)
noncomputable def alts (f : Nat → Cl (Rn n)) (l : List Nat) : Cl (Rn n) := List.rec (.mk fun _ _ _ _ => true) (fun i _ ih => match f i, ih with | .mk a, .mk r => .mk fun cf X s k => Bool.rec false (r cf X s k) (a cf X s k)) l
noncomputable def sto (s : S) (t : TypeId) (a v : AV) : Option (Ps × AO) :=
  match a, P.info? t with
  | .p b o, some i => bif Nat.beq (len (cellsA v)) i.size then (bif allOne (cellsA v) then (match s.h.get b with
      | some (.cells c e ex) => (match over (cellsA v) c o with
        | some c => some (b, .cells c e ex)
        | none => none)
      | _ => none) else none) else none
  | _, _ => none
noncomputable def stoC (o : Oper) : Option (Cl (TT n → S → Option (Ps × AO))) := match o.op, o.dst, o.guard with
  | .store t a x, none, none => (match gx n a, gx n x with | some (.mk g), some (.mk g') => some (.mk fun X s => sto P s t (g X) (g' X)) | _, _ => none)
  | _, _, _ => none
noncomputable def putO (s : S) (x : Ps × AO) : S := ⟨s.h.set (some x.2) x.1, s.n⟩
noncomputable def isN (l : List Nat) : Bool := match l with | [] => true | _ => false
noncomputable def is1 (j : Nat) (l : List Nat) : Bool := match l with | [i] => Nat.beq i j | _ => false
noncomputable def ckT (c : Option (Cl (TT n → S → Bool))) (X : TT n) (s : S) : Bool := match c with
  | some (.mk c) => c X s
  | none => true
noncomputable def two (ops : List Oper) (T : List Nat) (V i j : Nat) : Option (Cl (Rn n)) :=
  match nth ops i, nth ops j with
  | some oi, some oj => (match stoC n P oi, stoC n P oj, rechk n P G ops oi T, rechk n P G ops oj T with
    | some (.mk f), some (.mk g), some c, some d => bif is1 j (rdyG (Nat.lor V (2 ^ i)) ops 0) then (bif is1 i (rdyG (Nat.lor V (2 ^ j)) ops 0) then (bif isN (rdyG (Nat.lor (Nat.lor V (2 ^ i)) (2 ^ j)) ops 0) then (bif isN (rdyG (Nat.lor (Nat.lor V (2 ^ j)) (2 ^ i)) ops 0) then
      some (.mk fun _ X s k => match f X s, g X s with
        | some x, some y => bif Ps.beq x.1 y.1 then false else (bif ckT n c X (putO s x) then (bif ckT n d X (putO s y) then (bif ckT n c X (putO (putO s y) x) then (bif ckT n d X (putO (putO s x) y) then (bif k X (putO (putO s x) y) then true else false) else false) else false) else false) else false)
        | _, _ => false) else none) else none) else none) else none
    | _, _, _, _ => none)
  | _, _ => none
noncomputable def drR (ops : List Oper) (N : Nat) (m : Nat) : Nat → List Nat → Cl (Rn n) :=
  Nat.rec (fun V _ => match rdyF V ops 0 with | [] => .mk (fun _ X s k => k X s) | _ => .mk (bad n))
    (fun _ ih V T => match rdyF V ops 0 with
      | [] => .mk (fun _ X s k => k X s)
      | i :: l => match findF ops (i :: l) with
        | some q => (match nth ops q, ih (Nat.lor V (Nat.pow 2 q)) (q :: T) with
          | some o, .mk r => tel n P G ops N o r
          | none, _ => .mk (bad n))
        | none => Option.rec (alts n (fun j => match nth ops j, ih (Nat.lor V (Nat.pow 2 j)) T with
            | some o, .mk r => lou n P G ops N T o r
            | none, _ => .mk (bad n)) (i :: l)) (fun c => c) (match l with | [j] => two n P G ops T V i j | _ => none)) m
noncomputable def rgn (N : Nat) (ops : List Oper) (draw : Bool) : Cl (Rn n) :=
  bif draw then (bif downG ops 0 then drR n P G ops N (len ops) 0 [] else .mk (bad n)) else lnR n P G ops N ops
abbrev Cn := CF → TT n → S → K n → (Nat → K n) → K n → Bool
noncomputable def lp (fuel : Nat) (c : Cn n) (cf : CF) (X : TT n) (s : S) (kx : Nat → K n) (kr : K n) : Bool :=
  (Nat.rec (motive := fun _ => K n) (fun _ _ => false) (fun _ ih X s => c cf X s ih kx kr) fuel) X s
noncomputable def cnd (v : AV) (a b : Bool) : Bool := match v with
  | .b x => Bool.rec b a x
  | _ => false
noncomputable def badC : Cn n := fun _ _ _ _ _ _ => false
noncomputable def rdC (m : Nat) : Nat → Cl (TT n → List AV) := Nat.rec (fun _ => .mk fun _ => []) (fun _ ih i => match gC n i, ih (Nat.succ i) with | .mk g, .mk r => .mk fun X => g X :: r X) m
noncomputable def endL (b : Ps) (s : S) (k : S → Bool) (kx : Nat → S → Bool) (kr : S → Bool) : Bool := match s.h.get b with
  | some (.loop st pe _ _ _ _ _) => (match st with
    | .busy => false
    | _ => (match pe with
      | none => k ⟨s.h.set (some .dead) b, s.n⟩
      | some (.exit i) => kx i ⟨s.h.set (some .dead) b, s.n⟩
      | some .ret => kr ⟨s.h.set (some .dead) b, s.n⟩
      | _ => false))
  | _ => false
noncomputable def callE (f : AV) (b : Ps) (cf : CF) (s : S) (k : KV) : Bool := match f with
  | .f g caps => Bool.rec (cf g (app [.y b] caps) s k) false (Nat.beq g yNo)
  | .fm g v => Bool.rec (cf g [v, .y b] s k) false (Nat.beq g yNo)
  | _ => false
noncomputable def rngC (N : Nat) (ps : List Tmp) (as bd : Code) (fv : AV) (ts : List AV) (cf : CF) (s : S) (k : S → Bool) (kx : Nat → S → Bool) (kr : S → Bool) : Bool :=
  Option.rec false (fun q => callE fv q.1 cf q.2 fun _ s2 => endL q.1 s2 k kx kr) (newO (.loop .ready none N ts ps as bd) s)
noncomputable def cmp (fuel N : Nat) (inr : Bool) (c : Code) : Cl (Cn n) :=
  Code.rec (motive := fun _ => Cl (Cn n)) (.mk fun _ X s k _ _ => k X s)
    (fun _ ops d => match rgn n P G N ops.toList d with | .mk r => .mk fun cf X s k _ _ => r cf X s k)
    (fun _ _ a b => match a, b with | .mk a, .mk b => .mk fun cf X s k kx kr => a cf X s (fun X s => b cf X s k kx kr) kx kr)
    (fun x _ _ a b => match gx n x, a, b with
      | some (.mk g), .mk a, .mk b => .mk fun cf X s k kx kr => cnd (g X) (a cf X s k kx kr) (b cf X s k kx kr)
      | none, _, _ => .mk (badC n))
    (fun id _ c => match c with | .mk c => .mk fun cf X s k kx kr => c cf X s k (fun i => Bool.rec (kx i) k (Nat.beq i id)) kr)
    (fun _ c => match c with | .mk c => .mk fun cf X s _ kx kr => lp n fuel c cf X s kx kr)
    (fun f ps as bd _ _ => bif inr then .mk (badC n) else (match gx n f, rdC n N 0 with
      | some (.mk g), .mk rd => bif Nat.ble N (Nat.pow 2 n) then .mk (fun cf X s k kx kr => rngC N ps.toList as bd (g X) (rd X) cf s (fun s => k X s) (fun i s => kx i X s) (fun s => kr X s)) else .mk (badC n)
      | none, _ => .mk (badC n)))
    (fun i => .mk fun _ X s _ kx _ => kx i X s)
    (fun _ c => c)
    (fun _ => .mk fun _ X s k _ _ => k X s)
    (fun _ => .mk (badC n))
    (.mk fun _ X s _ _ kr => kr X s)
    (fun _ => .mk (badC n)) c
noncomputable def rsF (rs : List ResultVar) : Cl (TT n → PT AO → Option AV) := match rs with
  | [.tmp t] => bif Nat.ble (Nat.succ t) (Nat.pow 2 n) then (match gC n t with | .mk g => .mk fun X _ => some (g X)) else .mk fun X h => resF P (frOf n X) h rs
  | rs => .mk fun X h => resF P (frOf n X) h rs
noncomputable def arC (m : Nat) : Nat → Cl (List AV → TT n → TT n) := Nat.rec (fun _ => .mk fun _ X => X) (fun _ ih i => match ih (Nat.succ i), sC n i with | .mk r, .mk p => .mk fun vs X => List.rec (motive := fun _ => TT n) X (fun v vs' _ => r vs' (p v X)) vs) m
end
abbrev Fn := CF → List AV → S → KV → Bool
noncomputable def fnc (P : Program) (G : PT (List AV)) (fuel : Nat) (fn : Func) : Cl Fn := match fn.body with
  | some b => bif fn.name == "runtime.NumGoroutine" then .mk (fun _ _ _ _ => false) else
    (match rsF (Nat.succ (Nat.log2 fn.ntmps)) P fn.results.toList, arC (Nat.succ (Nat.log2 fn.ntmps)) (Nat.min fn.ntmps (fn.params.size + fn.nfree)) 0, cmp (Nat.succ (Nat.log2 fn.ntmps)) P G fuel fn.ntmps false b with
    | .mk rf, .mk ar, .mk c => .mk fun cf vs s k => Bool.rec false (c cf (ar vs (zN (Nat.succ (Nat.log2 fn.ntmps)))) s (fun X s => Option.rec false (fun v => k v s) (rf X s.h)) (fun _ _ _ => false) (fun X s => Option.rec false (fun v => k v s) (rf X s.h))) (Nat.ble (len vs) (Nat.min fn.ntmps (fn.params.size + fn.nfree))))
  | none => .mk fun _ _ _ _ => false
noncomputable def psC (n N : Nat) (ps : List Tmp) : Option (Cl (List AV → TT n → TT n)) := List.rec (some (.mk fun _ X => X)) (fun t _ ih => bif Nat.ble (Nat.succ t) N then (bif Nat.ble (Nat.succ t) (Nat.pow 2 n) then (match ih, sC n t with
  | some (.mk r), .mk p => some (.mk fun vs X => List.rec (motive := fun _ => TT n) X (fun v vs' _ => r vs' (p v X)) vs)
  | none, _ => none) else none) else none) ps
noncomputable def begR (b : Ps) (s : S) (k : S → Bool) : Bool := match s.h.get b with
  | some (.loop .ready pe N ts ps as bd) => k ⟨s.h.set (some (.loop .busy pe N ts ps as bd)) b, s.n⟩
  | _ => false
noncomputable def endN (b : Ps) (s : S) (k : KV) : Bool := match s.h.get b with
  | some (.loop _ _ N ts ps as bd) => k (.b true) ⟨s.h.set (some (.loop .ready none N ts ps as bd)) b, s.n⟩
  | _ => false
noncomputable def endJ (b : Ps) (j : Code) (s : S) (k : KV) : Bool := match s.h.get b with
  | some (.loop _ _ N ts ps as bd) => k (.b false) ⟨s.h.set (some (.loop .done (some j) N ts ps as bd)) b, s.n⟩
  | _ => false
noncomputable def rndC (n : Nat) (P : Program) (G : PT (List AV)) (fuel N : Nat) (ts : List AV) (ps : List Tmp) (as bd : Code) (b : Ps) (args : List AV) (cf : CF) (s : S) (k : KV) : Bool :=
  match cmp n P G fuel N true as, cmp n P G fuel N true bd, arC n N 0, psC n N ps with
  | .mk ra, .mk rb, .mk ar, some (.mk pw) => Bool.rec false (Bool.rec false (Bool.rec false
      (ra cf (pw args (ar ts (zN n))) s (fun X s => begR b s fun s => rb cf X s (fun _ s => endN b s k) (fun i _ s => endJ b (.exit i) s k) (fun _ s => endJ b .ret s k)) (fun _ _ _ => false) (fun _ _ => false))
      (Nat.ble N (Nat.pow 2 n))) (Nat.beq (len ts) N)) (Nat.beq (len args) (len ps))
  | _, _, _, none => false
noncomputable def yld (P : Program) (G : PT (List AV)) (fuel : Nat) : Fn := fun cf vs s k => match vs with
  | .y b :: args => (match s.h.get b with
    | some (.loop .ready _ N ts ps as bd) => rndC (Nat.succ (Nat.log2 N)) P G fuel N ts ps as bd b args cf s k
    | _ => false)
  | _ => false
abbrev Intr := List AV → S → Option (AV × S)
noncomputable def tabD (P : Program) (G : PT (List AV)) (fuel : Nat) (l : List (Nat × Func)) : PT (Cl Fn) := List.rec .lf (fun p _ ih => ih.set (some (fnc P G fuel p.2)) (psOf p.1)) l
noncomputable def tabC (P : Program) (G : PT (List AV)) (fuel : Nat) (l : List (Nat × Func)) : PT (Cl Fn) := (tabD P G fuel l).set (some (.mk (yld P G fuel))) (psOf yNo)
noncomputable def goF (F : PT (Cl Fn)) (I : PT Intr) (d : Nat) : CF := Nat.rec (fun _ _ _ _ => false) (fun _ cf => fun g vs s k => Bool.rec
  (Option.rec (Option.rec false (fun c => Cl.rec (fun f => f cf vs s k) c) (F.get (psOf g))) (fun f => Option.rec (Option.rec false (fun c => Cl.rec (fun f => f cf vs s k) c) (F.get (psOf g))) (fun r => k r.1 r.2) (f vs s)) (I.get (psOf g)))
  (Option.rec false (fun c => Cl.rec (fun f => f cf vs s k) c) (F.get (psOf yNo))) (Nat.beq g yNo)) d
end Go.Ev
