/- YtjajcecenflejaaGreatCz04 -/
import Derived.Test.YtjajcecenflejaaGreatCz01
import Derived.Lib.Varint
import Derived.Test.YtjajcecenflejaaGreatCz03
namespace Go.Proofs.YtjajcecenflejaaGreat
open Go.RowKit
abbrev uv (n : Nat) : List UInt8 := Lib.uvarint n
def eS (s : ByteArray) : List UInt8 := uv s.size ++ s.data.toList
def eI (x : Int) : List UInt8 := uv x.toNat
def eB (b : Bool) : List UInt8 := uv (if b then 1 else 0)
def eL {T : Type} (f : T → List UInt8) (l : List T) : List UInt8 := uv l.length ++ l.flatMap f
def eAt (a : At) : List UInt8 := eS a.n ++ eS a.v
def eMk (m : Mk) : List UInt8 := eS m.t ++ eL eAt m.a
def eTk (t : Tk) : List UInt8 := eI t.k ++ (if t.k = 1 ∨ t.k = 3 then eS t.t ++ (eL eAt t.a ++ eL eMk t.m) else if t.k = 4 then eI t.c ++ eL eMk t.m else [])
def eSt (t : St) : List UInt8 := eI t.k ++ (eI t.f ++
  (if t.k = 1 ∨ t.k = 6 then eI t.t ++ eL eTk t.mid else if t.k = 2 then eI t.t ++ (eI t.g ++ (eI t.e ++ (eI t.i ++ eL eTk t.mid)))
   else if t.k = 3 ∨ t.k = 4 then eI t.t ++ eMk t.m else if t.k = 5 then eS t.n ++ eS t.v else []))
def eSp (a : Sp) : List UInt8 := eS a.n ++ (eS a.d ++ eB a.m)
def eTy (t : Ty) : List UInt8 := eS t.n ++ (eS t.c ++ (eL eS t.g ++ (eB t.i ++ (eL eSp t.a ++ eL eS t.m))))
def eMt (t : Mt) : List UInt8 := eS t.n ++ (eL eS t.e ++ eL eSp t.a)
def eSc (s : Sc) : List UInt8 := eL eTy s.t ++ eL eMt s.m
mutual
def Nd.en : Nd → List UInt8
  | .mk t a m x k => eS t ++ (eL eAt a ++ (eL eMk m ++ (eS x ++ (uv k.length ++ Nd.ens k))))
def Nd.ens : List Nd → List UInt8
  | [] => []
  | e :: l => Nd.en e ++ Nd.ens l
end
theorem Nd.ens_eq : ∀ l : List Nd, Nd.ens l = l.flatMap Nd.en
  | [] => by rw [Nd.ens]; rfl
  | e :: l => by rw [Nd.ens, Nd.ens_eq l]; rfl
def eNd (n : Nd) : List UInt8 := n.en
theorem eNd_eq (n : Nd) : eNd n = eS n.t ++ (eL eAt n.a ++ (eL eMk n.m ++ (eS n.x ++ eL eNd n.k))) := by
  cases n with
  | mk t a m x k => unfold eNd; rw [Nd.en, Nd.ens_eq]; rfl
def okS (s : ByteArray) : Prop := s.size ≤ 1048576
def okI (x : Int) : Prop := 0 ≤ x ∧ x ≤ 1048576
def okL {T : Type} (ok : T → Prop) (l : List T) : Prop := l.length ≤ 65536 ∧ ∀ x ∈ l, ok x
def okAt (a : At) : Prop := okS a.n ∧ okS a.v
def okMk (m : Mk) : Prop := okS m.t ∧ okL okAt m.a
def okTk (t : Tk) : Prop :=
  ((t.k = 1 ∨ t.k = 3) ∧ okS t.t ∧ okL okAt t.a ∧ okL okMk t.m ∧ t.c = 0) ∨ (t.k = 2 ∧ t.t = .empty ∧ t.a = [] ∧ t.m = [] ∧ t.c = 0) ∨ (t.k = 4 ∧ t.t = .empty ∧ t.a = [] ∧ okL okMk t.m ∧ 0 ≤ t.c ∧ t.c < 256)
def okSt (t : St) : Prop := okI t.f ∧
  (((t.k = 1 ∨ t.k = 6) ∧ okI t.t ∧ okL okTk t.mid ∧ t.g = 0 ∧ t.e = 0 ∧ t.i = 0 ∧ t.m = ⟨.empty, []⟩ ∧ t.n = .empty ∧ t.v = .empty) ∨
   (t.k = 2 ∧ okI t.t ∧ okI t.g ∧ okI t.e ∧ okI t.i ∧ okL okTk t.mid ∧ t.m = ⟨.empty, []⟩ ∧ t.n = .empty ∧ t.v = .empty) ∨
   ((t.k = 3 ∨ t.k = 4) ∧ okI t.t ∧ okMk t.m ∧ t.g = 0 ∧ t.e = 0 ∧ t.i = 0 ∧ t.mid = [] ∧ t.n = .empty ∧ t.v = .empty) ∨
   (t.k = 5 ∧ okS t.n ∧ okS t.v ∧ t.t = 0 ∧ t.g = 0 ∧ t.e = 0 ∧ t.i = 0 ∧ t.mid = [] ∧ t.m = ⟨.empty, []⟩))
def okSp (a : Sp) : Prop := okS a.n ∧ okS a.d
def okTy (t : Ty) : Prop := okS t.n ∧ okS t.c ∧ okL okS t.g ∧ okL okSp t.a ∧ okL okS t.m
def okMt (t : Mt) : Prop := okS t.n ∧ okL okS t.e ∧ okL okSp t.a
def okSc (s : Sc) : Prop := okL okTy s.t ∧ okL okMt s.m
def okNd : Nat → Nd → Prop
  | 0, _ => False
  | f + 1, n => okS n.t ∧ okL okAt n.a ∧ okL okMk n.m ∧ okS n.x ∧ okL (okNd f) n.k
def uS (s : ByteArray) : Nat := s.size + 10
def uL {T : Type} (f : T → Nat) (l : List T) : Nat := (l.map f).sum + 10
def uAt (a : At) : Nat := uS a.n + uS a.v
def uMk (m : Mk) : Nat := uS m.t + uL uAt m.a
def uTk (t : Tk) : Nat := 20 + (uS t.t + (uL uAt t.a + uL uMk t.m))
def uSt (t : St) : Nat := 60 + (uL uTk t.mid + (uMk t.m + (uS t.n + uS t.v)))
def uSp (a : Sp) : Nat := uS a.n + (uS a.d + 10)
def uTy (t : Ty) : Nat := uS t.n + (uS t.c + (uL uS t.g + (10 + (uL uSp t.a + uL uS t.m))))
def uMt (t : Mt) : Nat := uS t.n + (uL uS t.e + uL uSp t.a)
def uSc (s : Sc) : Nat := uL uTy s.t + uL uMt s.m
mutual
def Nd.ub : Nd → Nat
  | .mk t a m x k => uS t + (uL uAt a + (uL uMk m + (uS x + (Nd.ubs k + 10))))
def Nd.ubs : List Nd → Nat
  | [] => 0
  | e :: l => Nd.ub e + Nd.ubs l
end
def uNd (n : Nd) : Nat := n.ub
theorem Nd.ubs_eq : ∀ l : List Nd, Nd.ubs l = (l.map uNd).sum
  | [] => by rw [Nd.ubs]; rfl
  | e :: l => by rw [Nd.ubs, Nd.ubs_eq l]; rfl
theorem uNd_eq (n : Nd) : uNd n = uS n.t + (uL uAt n.a + (uL uMk n.m + (uS n.x + uL uNd n.k))) := by
  cases n with
  | mk t a m x k => unfold uNd; rw [Nd.ub, Nd.ubs_eq]; rfl
end Go.Proofs.YtjajcecenflejaaGreat
namespace Go.Proofs.YtjajcecenflejaaGreat
open Go.RowKit
theorem rdF_inv : ∀ (l : List UInt8) (x i : Nat), (rdF x i l).2.2 = 0 → ∃ n, l = uv n ++ l.drop (szN n) ∧ (rdF x i l).1 = x + n * 2 ^ (7 * i) ∧ (rdF x i l).2.1 = i + szN n ∧ (0 < i → 0 < n)
  | [], _, _, h => by simp [rdF] at h
  | c :: r, x, i, h => by
    rw [rdF] at h ⊢
    by_cases h1 : i = 9 ∧ 1 < c.toNat
    · rw [if_pos h1] at h; simp at h
    by_cases h2 : 0 < i ∧ c.toNat = 0
    · rw [if_neg h1, if_pos h2] at h; simp at h
    have hc := c.toNat_lt
    by_cases h3 : c.toNat < 128
    · rw [if_neg h1, if_neg h2, if_pos h3]
      refine ⟨c.toNat, ?_, ?_, ?_, fun hi => by omega⟩
      · rw [szN_small h3, show uv c.toNat = [c.toNat.toUInt8] from Lib.uvarint_small h3]; simp
      · rw [Nat.mod_eq_of_lt h3]
      · rw [szN_small h3]
    · rw [if_neg h1, if_neg h2, if_neg h3] at h ⊢
      obtain ⟨n, e1, e2, e3, e4⟩ := rdF_inv r _ (i + 1) h
      have hn := e4 (by omega)
      have hm : (c.toNat % 128 + 128 * n) % 128 = c.toNat % 128 := by omega
      have hd : (c.toNat % 128 + 128 * n) / 128 = n := by omega
      have hb : 128 ≤ c.toNat % 128 + 128 * n := by omega
      have hcc : (c.toNat % 128 + 128).toUInt8 = c := by
        rw [show c.toNat % 128 + 128 = c.toNat by omega]; simp
      refine ⟨c.toNat % 128 + 128 * n, ?_, ?_, ?_, fun _ => by omega⟩
      · rw [szN_big hb, hd, show uv (c.toNat % 128 + 128 * n) = _ from Lib.uvarint_big hb, hm, hd, hcc, List.drop_succ_cons, List.cons_append, ← e1]
      · rw [e2, show 7 * (i + 1) = 7 * i + 7 by omega, Nat.pow_add, Nat.add_mul, show 2 ^ 7 = 128 from rfl, Nat.add_assoc, Nat.mul_comm (2 ^ (7 * i)) 128, ← Nat.mul_assoc, Nat.mul_comm n 128]
      · rw [e3, szN_big hb, hd]; omega
theorem rdF_cut : ∀ (n x i : Nat) (l t : List UInt8), l ++ t = uv n → t ≠ [] → i ≤ 9 → n * 2 ^ (7 * i) < 18446744073709551616 → (0 < i → 0 < n) → rdF x i l = (0, 0, 5) := by
  intro n
  induction n using Nat.strongRecOn with
  | ind n ih =>
    intro x i l t he ht hi hlt hpos
    cases l with
    | nil => rfl
    | cons c r =>
      by_cases hs : n < 128
      · rw [show uv n = [n.toUInt8] from Lib.uvarint_small hs] at he
        simp only [List.cons_append, List.cons.injEq, List.append_eq_nil_iff] at he
        exact absurd he.2.2 ht
      · have hb : 128 ≤ n := by omega
        rw [show uv n = _ from Lib.uvarint_big hb] at he
        simp only [List.cons_append, List.cons.injEq] at he
        obtain ⟨rfl, he⟩ := he
        have hc : ((n % 128 + 128).toUInt8).toNat = n % 128 + 128 := by simp [Nat.toUInt8]; omega
        rw [rdF, hc]
        have hi8 : i ≤ 8 := by
          by_cases h9 : i = 9
          · subst h9
            have h2 : (2 : Nat) ^ (7 * 9) = 9223372036854775808 := rfl
            rw [h2] at hlt
            omega
          · omega
        rw [if_neg (by omega), if_neg (by omega), if_neg (by omega)]
        have e1 : (2 : Nat) ^ (7 * (i + 1)) = 128 * 2 ^ (7 * i) := by rw [show 7 * (i + 1) = 7 * i + 7 by omega, Nat.pow_add, Nat.mul_comm]
        have e2 : n / 128 * (128 * 2 ^ (7 * i)) + n % 128 * 2 ^ (7 * i) = n * 2 ^ (7 * i) := by
          rw [← Nat.mul_assoc, ← Nat.add_mul]; congr 1; omega
        exact ih (n / 128) (by omega) _ (i + 1) r t he ht (by omega) (by rw [e1]; omega) (fun _ => by omega)
structure RS where
  l : List UInt8
  n : Nat
  f : Nat
def RS.fail (e : Nat) (s : RS) : RS := if s.n = 0 ∧ s.f = 0 then ⟨s.l, s.n, e⟩ else s
structure Good {α : Type} (r : RS → α × RS) (ok : α → Prop) (en : α → List UInt8) : Prop where
  stayf : ∀ s, s.f ≠ 0 → (r s).2.f = s.f
  stayn : ∀ s, s.n ≠ 0 → (r s).2.n = s.n ∧ (r s).2.f = s.f
  sound : ∀ s, (r s).2.n = 0 → (r s).2.f = 0 → s.n = 0 ∧ s.f = 0 ∧ ok (r s).1 ∧ s.l = en (r s).1 ++ (r s).2.l
  comp : ∀ x t, ok x → r ⟨en x ++ t, 0, 0⟩ = (x, ⟨t, 0, 0⟩)
  cut : ∀ x l t, ok x → l ++ t = en x → t ≠ [] → (r ⟨l, 0, 0⟩).2.n = 5 ∧ (r ⟨l, 0, 0⟩).2.f = 0
def rBind {α β : Type} (r1 : RS → α × RS) (r2 : α → RS → β × RS) (s : RS) : (α × β) × RS := (((r1 s).1, (r2 (r1 s).1 (r1 s).2).1), (r2 (r1 s).1 (r1 s).2).2)
theorem Good.bind {α β : Type} {r1 : RS → α × RS} {r2 : α → RS → β × RS} {ok1 : α → Prop} {ok2 : α → β → Prop} {en1 : α → List UInt8} {en2 : α → β → List UInt8}
    (h1 : Good r1 ok1 en1) (h2 : ∀ a, Good (r2 a) (ok2 a) (en2 a)) : Good (rBind r1 r2) (fun p => ok1 p.1 ∧ ok2 p.1 p.2) (fun p => en1 p.1 ++ en2 p.1 p.2) where
  stayf s hs := by
    have e1 := h1.stayf s hs
    exact ((h2 _).stayf _ (by rw [e1]; exact hs)).trans e1
  stayn s hs := by
    obtain ⟨a, b⟩ := h1.stayn s hs
    obtain ⟨c, d⟩ := (h2 (r1 s).1).stayn (r1 s).2 (by rw [a]; exact hs)
    exact ⟨c.trans a, d.trans b⟩
  sound s hn hf := by
    obtain ⟨a, b, c, d⟩ := (h2 (r1 s).1).sound (r1 s).2 hn hf
    obtain ⟨a', b', c', d'⟩ := h1.sound s a b
    exact ⟨a', b', ⟨c', c⟩, by rw [d', d, List.append_assoc]; rfl⟩
  comp x t hx := by
    obtain ⟨x, y⟩ := x
    have e1 := h1.comp x (en2 x y ++ t) hx.1
    have e2 := (h2 x).comp y t hx.2
    rw [← List.append_assoc] at e1
    unfold rBind
    rw [e1]
    show ((x, (r2 x _).1), (r2 x _).2) = _
    rw [e2]
  cut x l t hx he ht := by
    obtain ⟨x, y⟩ := x
    have he : l ++ t = en1 x ++ en2 x y := he
    by_cases hl : l.length < (en1 x).length
    · have e1 : l ++ (en1 x).drop l.length = en1 x := by
        have h3 := congrArg (List.take l.length) he
        rw [List.take_left, List.take_append_of_le_length (by omega)] at h3
        conv => lhs; lhs; rw [h3]
        exact List.take_append_drop _ _
      have e2 : (en1 x).drop l.length ≠ [] := by
        intro h; have := congrArg List.length h; simp at this; omega
      obtain ⟨a, b⟩ := h1.cut x l _ hx.1 e1 e2
      obtain ⟨c, d⟩ := (h2 (r1 ⟨l, 0, 0⟩).1).stayn (r1 ⟨l, 0, 0⟩).2 (by rw [a]; decide)
      exact ⟨c.trans a, d.trans b⟩
    · have e1 : en1 x ++ l.drop (en1 x).length = l := by
        have h3 := congrArg (List.take (en1 x).length) he
        rw [List.take_left, List.take_append_of_le_length (by omega)] at h3
        conv => lhs; lhs; rw [← h3]
        exact List.take_append_drop _ _
      have e2 : l.drop (en1 x).length ++ t = en2 x y := by
        rw [← e1] at he
        rw [List.append_assoc] at he
        exact List.append_cancel_left he
      have e3 := h1.comp x (l.drop (en1 x).length) hx.1
      rw [e1] at e3
      obtain ⟨a, b⟩ := (h2 x).cut y _ t hx.2 e2 ht
      unfold rBind
      rw [e3]
      exact ⟨a, b⟩
theorem Good.map {α β : Type} {r : RS → α × RS} {ok : α → Prop} {en : α → List UInt8} (h : Good r ok en) (φ : α → β) (ψ : β → α) {ok' : β → Prop} {en' : β → List UInt8}
    (h1 : ∀ x, ok x → ok' (φ x) ∧ en' (φ x) = en x) (h2 : ∀ y, ok' y → ok (ψ y) ∧ φ (ψ y) = y) : Good (fun s => (φ (r s).1, (r s).2)) ok' en' where
  stayf := h.stayf
  stayn := h.stayn
  sound s hn hf := by
    obtain ⟨a, b, c, d⟩ := h.sound s hn hf
    exact ⟨a, b, (h1 _ c).1, by rw [(h1 _ c).2]; exact d⟩
  comp y t hy := by
    obtain ⟨a, b⟩ := h2 y hy
    have e : en' y = en (ψ y) := by rw [← (h1 _ a).2, b]
    show (φ (r ⟨en' y ++ t, 0, 0⟩).1, _) = _
    rw [e, h.comp _ t a, b]
  cut y l t hy he ht := by
    obtain ⟨a, b⟩ := h2 y hy
    have e : en' y = en (ψ y) := by rw [← (h1 _ a).2, b]
    exact h.cut _ l t a (he.trans e) ht
theorem Good.nothing {α : Type} (x : α) : Good (fun s => (x, s)) (fun y => y = x) (fun _ => []) where
  stayf _ _ := rfl
  stayn _ _ := ⟨rfl, rfl⟩
  sound s hn hf := ⟨hn, hf, rfl, rfl⟩
  comp y t hy := by subst hy; rfl
  cut y l t hy he ht := absurd (List.append_eq_nil_iff.1 he).2 ht
def rU (most e : Nat) (s : RS) : Nat × RS :=
  if most < (rdNum s.l s.n).1 then (0, RS.fail e ⟨(rdNum s.l s.n).2.1, (rdNum s.l s.n).2.2, s.f⟩) else ((rdNum s.l s.n).1, ⟨(rdNum s.l s.n).2.1, (rdNum s.l s.n).2.2, s.f⟩)
theorem rdNum_err {l : List UInt8} {n : Nat} (h : n ≠ 0) : rdNum l n = (0, l, n) := by simp [rdNum, h]
theorem rdNum_inv {l : List UInt8} {n : Nat} (h : (rdNum l n).2.2 = 0) : n = 0 ∧ l = uv (rdNum l n).1 ++ (rdNum l n).2.1 := by
  by_cases hn : n = 0
  · subst hn
    refine ⟨rfl, ?_⟩
    unfold rdNum at h ⊢
    rw [if_neg (by simp)] at h ⊢
    by_cases h2 : (rdF 0 0 l).2.2 = 0
    · rw [if_neg (by simpa using h2)]
      obtain ⟨m, e1, e2, e3, _⟩ := rdF_inv l 0 0 h2
      rw [e2, e3]
      simpa using e1
    · rw [if_pos h2] at h
      exact absurd h h2
  · rw [rdNum_err hn] at h; exact absurd h hn
theorem rdNum_cut {n : Nat} (hn : U64 n) {l t : List UInt8} (he : l ++ t = uv n) (ht : t ≠ []) : rdNum l 0 = (0, l, 5) := by
  unfold U64 at hn
  have := rdF_cut n 0 0 l t he ht (by decide) (by simpa using hn) (by simp)
  unfold rdNum
  rw [this]
  simp
theorem rU_good (most e : Nat) (hm : U64 most) (he : e ≠ 0) : Good (rU most e) (fun x => x ≤ most) uv where
  stayf s hs := by
    unfold rU
    by_cases h : most < (rdNum s.l s.n).1
    · rw [if_pos h]; simp [RS.fail, hs]
    · rw [if_neg h]
  stayn s hs := by
    unfold rU
    rw [rdNum_err hs, if_neg (by simp)]
    exact ⟨rfl, rfl⟩
  sound s hn hf := by
    unfold rU at hn hf ⊢
    by_cases h : most < (rdNum s.l s.n).1
    · rw [if_pos h] at hn hf
      unfold RS.fail at hn hf
      by_cases h2 : (rdNum s.l s.n).2.2 = 0 ∧ s.f = 0
      · rw [if_pos h2] at hf; exact absurd hf he
      · rw [if_neg h2] at hn hf; exact absurd ⟨hn, hf⟩ h2
    · rw [if_neg h] at hn hf ⊢
      obtain ⟨a, b⟩ := rdNum_inv hn
      exact ⟨a, hf, by show _ ≤ _; omega, b⟩
  comp x t hx := by
    unfold rU
    have e1 : rdNum (uv x ++ t) 0 = (x, t, 0) := rdNum_uv (by unfold U64 at hm ⊢; omega) t
    show (if most < (rdNum (uv x ++ t) 0).1 then _ else _) = _
    rw [e1, if_neg (by show ¬ most < x; omega)]
  cut x l t hx h1 h2 := by
    unfold rU
    have e1 := rdNum_cut (by unfold U64 at hm ⊢; omega) h1 h2
    show (if most < (rdNum l 0).1 then _ else _ : Nat × RS).2.n = 5 ∧ _
    rw [e1, if_neg (by simp)]
    exact ⟨rfl, rfl⟩
def rT (s : RS) : ByteArray × RS := (⟨(rdPiece s.l s.n).1.toArray⟩, ⟨(rdPiece s.l s.n).2.1, (rdPiece s.l s.n).2.2, s.f⟩)
theorem rdP_big {p : List UInt8} (h : p.length ≤ 1048576) (rest : List UInt8) : rdP (uv p.length ++ (p ++ rest)) = (p, szN p.length + p.length, 0) := by
  have := rdF_uv p.length 0 0 (p ++ rest) (by decide) (by omega) (by simp)
  simp only [Nat.zero_add, Nat.mul_zero, Nat.pow_zero, Nat.mul_one] at this
  have hs : (Lib.uvarint p.length).length = szN p.length := rfl
  unfold rdP
  rw [this, if_neg (by simp), if_neg (by show ¬ _ < p.length; omega), if_neg (by simp [hs])]
  simp only [Prod.mk.injEq, and_true]
  rw [← hs, List.drop_left, List.take_left]
theorem rT_good : Good rT okS eS where
  stayf s hs := rfl
  stayn s hs := by
    unfold rT
    rw [show rdPiece s.l s.n = ([], s.l, s.n) by simp [rdPiece, hs]]
    exact ⟨rfl, rfl⟩
  sound s hn hf := by
    have hn' : (rdPiece s.l s.n).2.2 = 0 := hn
    have hf' : s.f = 0 := hf
    show s.n = 0 ∧ s.f = 0 ∧ okS ⟨(rdPiece s.l s.n).1.toArray⟩ ∧ s.l = eS ⟨(rdPiece s.l s.n).1.toArray⟩ ++ (rdPiece s.l s.n).2.1
    unfold rdPiece at hn' ⊢
    by_cases h1 : s.n = 0
    · rw [if_neg (by simpa using h1)] at hn' ⊢
      by_cases h2 : (rdP s.l).2.2 = 0
      · rw [if_neg (by simpa using h2)]
        have h3 := h2
        unfold rdP at h3
        by_cases h4 : (rdF 0 0 s.l).2.2 = 0
        · rw [if_neg (by simpa using h4)] at h3
          by_cases h5 : 1048576 < (rdF 0 0 s.l).1
          · rw [if_pos h5] at h3; simp at h3
          · rw [if_neg h5] at h3
            by_cases h6 : s.l.length < (rdF 0 0 s.l).2.1 + (rdF 0 0 s.l).1
            · rw [if_pos h6] at h3; simp at h3
            · have hP : rdP s.l = ((s.l.drop (rdF 0 0 s.l).2.1).take (rdF 0 0 s.l).1, (rdF 0 0 s.l).2.1 + (rdF 0 0 s.l).1, 0) := by
                unfold rdP
                rw [if_neg (by simpa using h4), if_neg h5, if_neg h6]
              obtain ⟨m, e1, e2, e3, _⟩ := rdF_inv s.l 0 0 h4
              simp only [Nat.zero_add, Nat.mul_zero, Nat.pow_zero, Nat.mul_one] at e2 e3
              rw [hP]
              rw [e2, e3] at h6 ⊢
              rw [e2] at h5
              have hlen : ((s.l.drop (szN m)).take m).length = m := by rw [List.length_take, List.length_drop]; omega
              refine ⟨h1, hf', ?_, ?_⟩
              · show (ByteArray.mk _).size ≤ _
                rw [show (ByteArray.mk ((s.l.drop (szN m)).take m).toArray).size = ((s.l.drop (szN m)).take m).length by simp [ByteArray.size], hlen]
                omega
              · unfold eS
                rw [show (ByteArray.mk ((s.l.drop (szN m)).take m).toArray).size = ((s.l.drop (szN m)).take m).length by simp [ByteArray.size], hlen]
                show s.l = uv m ++ ((s.l.drop (szN m)).take m) ++ s.l.drop (szN m + m)
                rw [List.append_assoc, ← List.drop_drop, List.take_append_drop]
                exact e1
        · rw [if_pos h4] at h3; exact absurd h3 h4
      · rw [if_pos h2] at hn'; exact absurd hn' h2
    · rw [if_pos h1] at hn'; exact absurd hn' h1
  comp x t hx := by
    unfold okS at hx
    have hx' : x.data.toList.length ≤ 1048576 := by simpa using hx
    have h1 := rdP_big hx' t
    have hsz : x.size = x.data.toList.length := by rw [Array.length_toList]; rfl
    unfold rT eS
    rw [hsz, List.append_assoc]
    show ((⟨(rdPiece (uv x.data.toList.length ++ (x.data.toList ++ t)) 0).1.toArray⟩ : ByteArray), (⟨(rdPiece (uv x.data.toList.length ++ (x.data.toList ++ t)) 0).2.1, (rdPiece (uv x.data.toList.length ++ (x.data.toList ++ t)) 0).2.2, 0⟩ : RS)) = _
    unfold rdPiece
    rw [h1, if_neg (by simp), if_neg (by simp)]
    have e : (uv x.data.toList.length ++ (x.data.toList ++ t)).drop (szN x.data.toList.length + x.data.toList.length) = t := by
      rw [← List.append_assoc]
      exact List.drop_left' (by rw [List.length_append]; rfl)
    simp only [e]
  cut x l t hx h1 h2 := by
    unfold okS at hx
    have hsz : x.size = x.data.toList.length := by rw [Array.length_toList]; rfl
    unfold eS at h1
    have key : (rdP l).2.2 = 5 := by
      by_cases hl : l.length < (uv x.size).length
      · have e1 : l ++ (uv x.size).drop l.length = uv x.size := by
          have h3 := congrArg (List.take l.length) h1
          rw [List.take_left, List.take_append_of_le_length (by omega)] at h3
          conv => lhs; lhs; rw [h3]
          exact List.take_append_drop _ _
        have e2 : (uv x.size).drop l.length ≠ [] := by
          intro h; have := congrArg List.length h; simp at this; omega
        have := rdF_cut x.size 0 0 l _ e1 e2 (by decide) (by omega) (by simp)
        unfold rdP
        rw [this]; simp
      · have e1 : uv x.size ++ l.drop (uv x.size).length = l := by
          have h3 := congrArg (List.take (uv x.size).length) h1
          rw [List.take_left, List.take_append_of_le_length (by omega)] at h3
          conv => lhs; lhs; rw [← h3]
          exact List.take_append_drop _ _
        have e3 := rdF_uv x.size 0 0 (l.drop (uv x.size).length) (by decide) (by omega) (by simp)
        rw [show Lib.uvarint x.size ++ l.drop (uv x.size).length = l from e1] at e3
        simp only [Nat.zero_add, Nat.mul_zero, Nat.pow_zero, Nat.mul_one] at e3
        have ht : 0 < t.length := List.length_pos_iff.2 h2
        have h3 := congrArg List.length h1
        simp only [List.length_append] at h3
        unfold rdP
        rw [e3, if_neg (by simp), if_neg (by show ¬ _ < x.size; omega), if_pos (by show _ < szN _ + _; have : (uv x.size).length = szN x.size := rfl; omega)]
    unfold rT
    show (rdPiece l 0).2.2 = 5 ∧ (0 : Nat) = 0
    refine ⟨?_, rfl⟩
    unfold rdPiece
    rw [if_neg (by simp), if_pos (by rw [key]; decide)]
    exact key
end Go.Proofs.YtjajcecenflejaaGreat
namespace Go.Proofs.YtjajcecenflejaaGreat
open Go.RowKit
def rLoop {α : Type} (r : RS → α × RS) : Nat → List α → RS → List α × RS
  | 0, acc, s => (acc, s)
  | k + 1, acc, s => if s.n = 0 ∧ s.f = 0 then rLoop r k (acc ++ [(r s).1]) (r s).2 else ([], s)
def rL {α : Type} (r : RS → α × RS) (s : RS) : List α × RS := rLoop r (rU 65536 3 s).1 [] (rU 65536 3 s).2
section
variable {α : Type} {r : RS → α × RS} {ok : α → Prop} {en : α → List UInt8}
theorem rLoop_bad (k : Nat) (acc : List α) (s : RS) (h : ¬ (s.n = 0 ∧ s.f = 0)) : (rLoop r k acc s).2 = s := by
  cases k with
  | zero => rfl
  | succ k => rw [rLoop, if_neg h]
theorem rLoop_sound (h : Good r ok en) : ∀ (k : Nat) (acc : List α) (s : RS), (rLoop r k acc s).2.n = 0 → (rLoop r k acc s).2.f = 0 →
    s.n = 0 ∧ s.f = 0 ∧ ∃ l' : List α, (rLoop r k acc s).1 = acc ++ l' ∧ l'.length = k ∧ (∀ x ∈ l', ok x) ∧ s.l = l'.flatMap en ++ (rLoop r k acc s).2.l
  | 0, acc, s, hn, hf => ⟨hn, hf, [], by simp [rLoop], rfl, by simp, by simp [rLoop]⟩
  | k + 1, acc, s, hn, hf => by
    rw [rLoop] at hn hf ⊢
    by_cases hw : s.n = 0 ∧ s.f = 0
    · rw [if_pos hw] at hn hf ⊢
      obtain ⟨a, b, l', e1, e2, e3, e4⟩ := rLoop_sound h k _ _ hn hf
      obtain ⟨_, _, c, d⟩ := h.sound s a b
      refine ⟨hw.1, hw.2, (r s).1 :: l', ?_, by simp [e2], ?_, ?_⟩
      · rw [e1]; simp
      · intro x hx
        rcases List.mem_cons.1 hx with rfl | hx
        · exact c
        · exact e3 x hx
      · rw [d, e4, List.flatMap_cons, List.append_assoc]
    · rw [if_neg hw] at hn hf
      exact absurd ⟨hn, hf⟩ hw
theorem rLoop_comp (h : Good r ok en) : ∀ (l acc : List α) (t : List UInt8), (∀ x ∈ l, ok x) → rLoop r l.length acc ⟨l.flatMap en ++ t, 0, 0⟩ = (acc ++ l, ⟨t, 0, 0⟩)
  | [], acc, t, _ => by simp [rLoop]
  | x :: l, acc, t, hl => by
    rw [List.length_cons, rLoop, if_pos ⟨rfl, rfl⟩, List.flatMap_cons, List.append_assoc, h.comp x _ (hl x (by simp))]
    simp only
    rw [rLoop_comp h l _ t fun y hy => hl y (by simp [hy])]
    simp
theorem cut_split {a b l t : List UInt8} (he : l ++ t = a ++ b) : (∃ t', l ++ t' = a ∧ t' ≠ []) ∨ ∃ l', l = a ++ l' ∧ l' ++ t = b := by
  by_cases hl : l.length < a.length
  · left
    refine ⟨a.drop l.length, ?_, fun h => by have := congrArg List.length h; simp at this; omega⟩
    have h3 := congrArg (List.take l.length) he
    rw [List.take_left, List.take_append_of_le_length (by omega)] at h3
    conv => lhs; lhs; rw [h3]
    exact List.take_append_drop _ _
  · right
    have e1 : a ++ l.drop a.length = l := by
      have h3 := congrArg (List.take a.length) he
      rw [List.take_left, List.take_append_of_le_length (by omega)] at h3
      conv => lhs; lhs; rw [← h3]
      exact List.take_append_drop _ _
    refine ⟨l.drop a.length, e1.symm, ?_⟩
    rw [← e1, List.append_assoc] at he
    exact List.append_cancel_left he
theorem rLoop_cut (h : Good r ok en) : ∀ (xs acc : List α) (l t : List UInt8), (∀ x ∈ xs, ok x) → l ++ t = xs.flatMap en → t ≠ [] → (rLoop r xs.length acc ⟨l, 0, 0⟩).2.n = 5 ∧ (rLoop r xs.length acc ⟨l, 0, 0⟩).2.f = 0
  | [], _, _, _, _, he, ht => absurd (List.append_eq_nil_iff.1 he).2 ht
  | x :: xs, acc, l, t, hl, he, ht => by
    rw [List.length_cons, rLoop, if_pos ⟨rfl, rfl⟩]
    rw [List.flatMap_cons] at he
    rcases cut_split he with ⟨t', e1, e2⟩ | ⟨l', rfl, e2⟩
    · obtain ⟨a, b⟩ := h.cut x l t' (hl x (by simp)) e1 e2
      rw [rLoop_bad _ _ _ (by omega)]
      exact ⟨a, b⟩
    · rw [h.comp x l' (hl x (by simp))]
      exact rLoop_cut h xs _ l' t (fun y hy => hl y (by simp [hy])) e2 ht
theorem rL_good (h : Good r ok en) : Good (rL r) (okL ok) (eL en) where
  stayf s hs := by
    have e := (rU_good 65536 3 (by unfold U64; decide) (by decide)).stayf s hs
    unfold rL
    rw [rLoop_bad _ _ _ (by omega)]
    exact e
  stayn s hs := by
    obtain ⟨e1, e2⟩ := (rU_good 65536 3 (by unfold U64; decide) (by decide)).stayn s hs
    unfold rL
    rw [rLoop_bad _ _ _ (by omega)]
    exact ⟨e1, e2⟩
  sound s hn hf := by
    obtain ⟨a, b, l', e1, e2, e3, e4⟩ := rLoop_sound h _ _ _ hn hf
    obtain ⟨a', b', c', d'⟩ := (rU_good 65536 3 (by unfold U64; decide) (by decide)).sound s a b
    have e5 : (rL r s).1 = l' := by unfold rL; rw [e1]; simp
    rw [e5]
    refine ⟨a', b', ⟨by rw [e2]; exact c', e3⟩, ?_⟩
    unfold eL
    rw [e2, d', e4, List.append_assoc]; rfl
  comp x t hx := by
    have e := (rU_good 65536 3 (by unfold U64; decide) (by decide)).comp x.length (x.flatMap en ++ t) hx.1
    unfold rL eL
    rw [List.append_assoc, e]
    simp only
    rw [rLoop_comp h x [] t hx.2]
    simp
  cut x l t hx he ht := by
    unfold eL at he
    rcases cut_split he with ⟨t', e1, e2⟩ | ⟨l', rfl, e2⟩
    · obtain ⟨a, b⟩ := (rU_good 65536 3 (by unfold U64; decide) (by decide)).cut x.length l t' hx.1 e1 e2
      unfold rL
      rw [rLoop_bad _ _ _ (by omega)]
      exact ⟨a, b⟩
    · have e := (rU_good 65536 3 (by unfold U64; decide) (by decide)).comp x.length l' hx.1
      unfold rL
      rw [e]
      exact rLoop_cut h x [] l' t hx.2 e2 ht
end
def rI (s : RS) : Int × RS := (((rU 1048576 3 s).1 : Int), (rU 1048576 3 s).2)
theorem rI_good : Good rI okI eI := (rU_good 1048576 3 (by unfold U64; decide) (by decide)).map (fun x => (x : Int)) Int.toNat
  (fun x hx => ⟨⟨by omega, by omega⟩, by unfold eI; simp⟩) (fun y hy => ⟨by have := hy.2; omega, by have := hy.1; omega⟩)
def rB (s : RS) : Bool × RS := ((rU 1 4 s).1 == 1, (rU 1 4 s).2)
theorem rB_good : Good rB (fun _ => True) eB := (rU_good 1 4 (by unfold U64; decide) (by decide)).map (fun x => x == 1) (fun b => if b then 1 else 0)
  (fun x hx => ⟨trivial, by
    unfold eB
    rcases (by omega : x = 0 ∨ x = 1) with rfl | rfl <;> rfl⟩) (fun y _ => by cases y <;> simp)
def rCh (s : RS) : Int × RS := (((rU 255 4 s).1 : Int), (rU 255 4 s).2)
theorem rCh_good : Good rCh (fun x => 0 ≤ x ∧ x < 256) eI := (rU_good 255 4 (by unfold U64; decide) (by decide)).map (fun x => (x : Int)) Int.toNat
  (fun x hx => ⟨⟨by omega, by omega⟩, by unfold eI; simp⟩) (fun y hy => ⟨by have := hy.2; omega, by have := hy.1; omega⟩)
def rK (last : Nat) (s : RS) : Nat × RS := ((rU last 4 s).1, if (rU last 4 s).1 = 0 then RS.fail 4 (rU last 4 s).2 else (rU last 4 s).2)
theorem rK_good (last : Nat) (hl : U64 last) : Good (rK last) (fun x => 1 ≤ x ∧ x ≤ last) uv where
  stayf s hs := by
    have e := (rU_good last 4 hl (by decide)).stayf s hs
    unfold rK RS.fail
    by_cases h : (rU last 4 s).1 = 0
    · rw [if_pos h, if_neg (by omega)]; exact e
    · rw [if_neg h]; exact e
  stayn s hs := by
    have e := (rU_good last 4 hl (by decide)).stayn s hs
    unfold rK RS.fail
    by_cases h : (rU last 4 s).1 = 0
    · rw [if_pos h, if_neg (by omega)]; exact e
    · rw [if_neg h]; exact e
  sound s hn hf := by
    unfold rK RS.fail at hn hf ⊢
    by_cases h : (rU last 4 s).1 = 0
    · rw [if_pos h] at hn hf
      by_cases h2 : (rU last 4 s).2.n = 0 ∧ (rU last 4 s).2.f = 0
      · rw [if_pos h2] at hf; simp at hf
      · rw [if_neg h2] at hn hf; exact absurd ⟨hn, hf⟩ h2
    · rw [if_neg h] at hn hf ⊢
      obtain ⟨a, b, c, d⟩ := (rU_good last 4 hl (by decide)).sound s hn hf
      exact ⟨a, b, ⟨by omega, c⟩, d⟩
  comp x t hx := by
    have e := (rU_good last 4 hl (by decide)).comp x t hx.2
    unfold rK
    rw [e, if_neg (by show ¬ x = 0; omega)]
  cut x l t hx he ht := by
    obtain ⟨a, b⟩ := (rU_good last 4 hl (by decide)).cut x l t hx.2 he ht
    unfold rK RS.fail
    by_cases h : (rU last 4 ⟨l, 0, 0⟩).1 = 0
    · rw [if_pos h, if_neg (by omega)]; exact ⟨a, b⟩
    · rw [if_neg h]; exact ⟨a, b⟩
section
variable {A B C D E F T : Type}
def rS2 (φ : A → B → T) (r1 : RS → A × RS) (r2 : RS → B × RS) (s : RS) : T × RS := (φ (r1 s).1 (r2 (r1 s).2).1, (r2 (r1 s).2).2)
def rS3 (φ : A → B → C → T) (r1 : RS → A × RS) (r2 : RS → B × RS) (r3 : RS → C × RS) (s : RS) : T × RS := (φ (r1 s).1 (r2 (r1 s).2).1 (r3 (r2 (r1 s).2).2).1, (r3 (r2 (r1 s).2).2).2)
def rS5 (φ : A → B → C → D → E → T) (r1 : RS → A × RS) (r2 : RS → B × RS) (r3 : RS → C × RS) (r4 : RS → D × RS) (r5 : RS → E × RS) (s : RS) : T × RS :=
  (φ (r1 s).1 (r2 (r1 s).2).1 (r3 (r2 (r1 s).2).2).1 (r4 (r3 (r2 (r1 s).2).2).2).1 (r5 (r4 (r3 (r2 (r1 s).2).2).2).2).1, (r5 (r4 (r3 (r2 (r1 s).2).2).2).2).2)
def rS6 (φ : A → B → C → D → E → F → T) (r1 : RS → A × RS) (r2 : RS → B × RS) (r3 : RS → C × RS) (r4 : RS → D × RS) (r5 : RS → E × RS) (r6 : RS → F × RS) (s : RS) : T × RS :=
  (φ (r1 s).1 (r2 (r1 s).2).1 (r3 (r2 (r1 s).2).2).1 (r4 (r3 (r2 (r1 s).2).2).2).1 (r5 (r4 (r3 (r2 (r1 s).2).2).2).2).1 (r6 (r5 (r4 (r3 (r2 (r1 s).2).2).2).2).2).1, (r6 (r5 (r4 (r3 (r2 (r1 s).2).2).2).2).2).2)
variable {r1 : RS → A × RS} {r2 : RS → B × RS} {r3 : RS → C × RS} {r4 : RS → D × RS} {r5 : RS → E × RS} {r6 : RS → F × RS}
variable {o1 : A → Prop} {o2 : B → Prop} {o3 : C → Prop} {o4 : D → Prop} {o5 : E → Prop} {o6 : F → Prop} {e1 : A → List UInt8} {e2 : B → List UInt8} {e3 : C → List UInt8} {e4 : D → List UInt8} {e5 : E → List UInt8} {e6 : F → List UInt8} {ok : T → Prop} {en : T → List UInt8}
theorem Good.s2 (h1 : Good r1 o1 e1) (h2 : Good r2 o2 e2) (φ : A → B → T) (ψ : T → A × B) (ha : ∀ x : A × B, o1 x.1 ∧ o2 x.2 → ok (φ x.1 x.2) ∧ en (φ x.1 x.2) = e1 x.1 ++ e2 x.2) (hb : ∀ y, ok y → (o1 (ψ y).1 ∧ o2 (ψ y).2) ∧ φ (ψ y).1 (ψ y).2 = y) : Good (rS2 φ r1 r2) ok en :=
  (h1.bind fun _ => h2).map (fun p => φ p.1 p.2) ψ ha hb
theorem Good.s3 (h1 : Good r1 o1 e1) (h2 : Good r2 o2 e2) (h3 : Good r3 o3 e3) (φ : A → B → C → T) (ψ : T → A × B × C) (ha : ∀ x : A × B × C, o1 x.1 ∧ o2 x.2.1 ∧ o3 x.2.2 → ok (φ x.1 x.2.1 x.2.2) ∧ en (φ x.1 x.2.1 x.2.2) = e1 x.1 ++ (e2 x.2.1 ++ e3 x.2.2))
    (hb : ∀ y, ok y → (o1 (ψ y).1 ∧ o2 (ψ y).2.1 ∧ o3 (ψ y).2.2) ∧ φ (ψ y).1 (ψ y).2.1 (ψ y).2.2 = y) : Good (rS3 φ r1 r2 r3) ok en :=
  (h1.bind fun _ => h2.bind fun _ => h3).map (fun p => φ p.1 p.2.1 p.2.2) ψ ha hb
theorem Good.s5 (h1 : Good r1 o1 e1) (h2 : Good r2 o2 e2) (h3 : Good r3 o3 e3) (h4 : Good r4 o4 e4) (h5 : Good r5 o5 e5) (φ : A → B → C → D → E → T) (ψ : T → A × B × C × D × E)
    (ha : ∀ x : A × B × C × D × E, o1 x.1 ∧ o2 x.2.1 ∧ o3 x.2.2.1 ∧ o4 x.2.2.2.1 ∧ o5 x.2.2.2.2 → ok (φ x.1 x.2.1 x.2.2.1 x.2.2.2.1 x.2.2.2.2) ∧ en (φ x.1 x.2.1 x.2.2.1 x.2.2.2.1 x.2.2.2.2) = e1 x.1 ++ (e2 x.2.1 ++ (e3 x.2.2.1 ++ (e4 x.2.2.2.1 ++ e5 x.2.2.2.2))))
    (hb : ∀ y, ok y → (o1 (ψ y).1 ∧ o2 (ψ y).2.1 ∧ o3 (ψ y).2.2.1 ∧ o4 (ψ y).2.2.2.1 ∧ o5 (ψ y).2.2.2.2) ∧ φ (ψ y).1 (ψ y).2.1 (ψ y).2.2.1 (ψ y).2.2.2.1 (ψ y).2.2.2.2 = y) : Good (rS5 φ r1 r2 r3 r4 r5) ok en :=
  (h1.bind fun _ => h2.bind fun _ => h3.bind fun _ => h4.bind fun _ => h5).map (fun p => φ p.1 p.2.1 p.2.2.1 p.2.2.2.1 p.2.2.2.2) ψ ha hb
theorem Good.s6 (h1 : Good r1 o1 e1) (h2 : Good r2 o2 e2) (h3 : Good r3 o3 e3) (h4 : Good r4 o4 e4) (h5 : Good r5 o5 e5) (h6 : Good r6 o6 e6) (φ : A → B → C → D → E → F → T) (ψ : T → A × B × C × D × E × F)
    (ha : ∀ x : A × B × C × D × E × F, o1 x.1 ∧ o2 x.2.1 ∧ o3 x.2.2.1 ∧ o4 x.2.2.2.1 ∧ o5 x.2.2.2.2.1 ∧ o6 x.2.2.2.2.2 → ok (φ x.1 x.2.1 x.2.2.1 x.2.2.2.1 x.2.2.2.2.1 x.2.2.2.2.2) ∧ en (φ x.1 x.2.1 x.2.2.1 x.2.2.2.1 x.2.2.2.2.1 x.2.2.2.2.2) = e1 x.1 ++ (e2 x.2.1 ++ (e3 x.2.2.1 ++ (e4 x.2.2.2.1 ++ (e5 x.2.2.2.2.1 ++ e6 x.2.2.2.2.2)))))
    (hb : ∀ y, ok y → (o1 (ψ y).1 ∧ o2 (ψ y).2.1 ∧ o3 (ψ y).2.2.1 ∧ o4 (ψ y).2.2.2.1 ∧ o5 (ψ y).2.2.2.2.1 ∧ o6 (ψ y).2.2.2.2.2) ∧ φ (ψ y).1 (ψ y).2.1 (ψ y).2.2.1 (ψ y).2.2.2.1 (ψ y).2.2.2.2.1 (ψ y).2.2.2.2.2 = y) : Good (rS6 φ r1 r2 r3 r4 r5 r6) ok en :=
  (h1.bind fun _ => h2.bind fun _ => h3.bind fun _ => h4.bind fun _ => h5.bind fun _ => h6).map (fun p => φ p.1 p.2.1 p.2.2.1 p.2.2.2.1 p.2.2.2.2.1 p.2.2.2.2.2) ψ ha hb
end
def rAt : RS → At × RS := rS2 At.mk rT rT
theorem rAt_good : Good rAt okAt eAt := rT_good.s2 rT_good At.mk (fun a => (a.n, a.v)) (fun _ hx => ⟨hx, rfl⟩) (fun _ hy => ⟨hy, rfl⟩)
def rMk : RS → Mk × RS := rS2 Mk.mk rT (rL rAt)
theorem rMk_good : Good rMk okMk eMk := rT_good.s2 (rL_good rAt_good) Mk.mk (fun a => (a.t, a.a)) (fun _ hx => ⟨hx, rfl⟩) (fun _ hy => ⟨hy, rfl⟩)
def rNd : Nat → RS → Nd × RS
  | 0, s => (.mk .empty [] [] .empty [], RS.fail 3 s)
  | f + 1, s => rS5 Nd.mk rT (rL rAt) (rL rMk) rT (rL (rNd f)) s
theorem rNd_good : ∀ f, Good (rNd f) (okNd f) eNd
  | 0 =>
    { stayf := fun s hs => by simp [rNd, RS.fail, hs]
      stayn := fun s hs => by simp [rNd, RS.fail, hs]
      sound := fun s hn hf => by
        simp only [rNd, RS.fail] at hn hf
        by_cases h : s.n = 0 ∧ s.f = 0
        · rw [if_pos h] at hf; simp at hf
        · rw [if_neg h] at hn hf; exact absurd ⟨hn, hf⟩ h
      comp := fun x t hx => hx.elim
      cut := fun x l t hx => hx.elim }
  | f + 1 => by
    have e : rNd (f + 1) = rS5 Nd.mk rT (rL rAt) (rL rMk) rT (rL (rNd f)) := by funext s; rw [rNd]
    rw [e]
    exact rT_good.s5 (rL_good rAt_good) (rL_good rMk_good) rT_good (rL_good (rNd_good f)) Nd.mk (fun n => (n.t, n.a, n.m, n.x, n.k)) (fun _ hx => ⟨hx, eNd_eq _⟩) (fun y hy => ⟨hy, by cases y; rfl⟩)
def rTkB (k : Nat) : RS → Tk × RS :=
  if k = 1 ∨ k = 3 then rS3 (fun t a m => ⟨k, t, a, m, 0⟩) rT (rL rAt) (rL rMk) else if k = 4 then rS2 (fun c m => ⟨k, .empty, [], m, c⟩) rCh (rL rMk) else fun s => (⟨k, .empty, [], [], 0⟩, s)
def rTk (s : RS) : Tk × RS := ((rTkB (rK 4 s).1 (rK 4 s).2).1, (rTkB (rK 4 s).1 (rK 4 s).2).2)
def okTkB (k : Nat) (t : Tk) : Prop :=
  if k = 1 ∨ k = 3 then t.k = k ∧ okS t.t ∧ okL okAt t.a ∧ okL okMk t.m ∧ t.c = 0
  else if k = 4 then t.k = k ∧ t.t = .empty ∧ t.a = [] ∧ okL okMk t.m ∧ 0 ≤ t.c ∧ t.c < 256 else t = ⟨k, .empty, [], [], 0⟩
def eTkB (k : Nat) (t : Tk) : List UInt8 := if k = 1 ∨ k = 3 then eS t.t ++ (eL eAt t.a ++ eL eMk t.m) else if k = 4 then eI t.c ++ eL eMk t.m else []
theorem rTkB_good (k : Nat) : Good (rTkB k) (okTkB k) (eTkB k) := by
  unfold rTkB okTkB eTkB
  by_cases h1 : k = 1 ∨ k = 3
  · simp only [if_pos h1]
    exact rT_good.s3 (rL_good rAt_good) (rL_good rMk_good) (fun t a m => (⟨k, t, a, m, 0⟩ : Tk)) (fun t => (t.t, t.a, t.m)) (fun x hx => ⟨⟨rfl, hx.1, hx.2.1, hx.2.2, rfl⟩, rfl⟩)
      (fun y hy => ⟨⟨hy.2.1, hy.2.2.1, hy.2.2.2.1⟩, by obtain ⟨a, b, c, d, e⟩ := y; obtain ⟨rfl, _, _, _, rfl⟩ := hy; rfl⟩)
  · simp only [if_neg h1]
    by_cases h2 : k = 4
    · simp only [if_pos h2]
      exact rCh_good.s2 (rL_good rMk_good) (fun c m => (⟨k, .empty, [], m, c⟩ : Tk)) (fun t => (t.c, t.m)) (fun x hx => ⟨⟨rfl, rfl, rfl, hx.2, hx.1.1, hx.1.2⟩, rfl⟩)
        (fun y hy => ⟨⟨⟨hy.2.2.2.2.1, hy.2.2.2.2.2⟩, hy.2.2.2.1⟩, by obtain ⟨a, b, c, d, e⟩ := y; obtain ⟨rfl, rfl, rfl, _⟩ := hy; rfl⟩)
    · simp only [if_neg h2]
      exact Good.nothing _
theorem okTk_b {t : Tk} : okTk t ↔ (1 ≤ t.k ∧ t.k ≤ 4) ∧ okTkB t.k.toNat t := by
  obtain ⟨k, a, b, c, d⟩ := t
  unfold okTk okTkB
  simp only [Tk.mk.injEq]
  constructor
  · rintro (⟨rfl | rfl, h⟩ | ⟨rfl, h⟩ | ⟨rfl, h⟩) <;> simp_all
  · rintro ⟨⟨h1, h2⟩, h⟩
    obtain rfl | rfl | rfl | rfl : k = 1 ∨ k = 2 ∨ k = 3 ∨ k = 4 := by omega
    all_goals simp_all
theorem rTk_good : Good rTk okTk eTk := ((rK_good 4 (by unfold U64; decide)).bind fun k => rTkB_good k).map (fun p => p.2) (fun t => (t.k.toNat, t))
  (fun x hx => by
    obtain ⟨k, t⟩ := x
    obtain ⟨⟨h1, h2⟩, h3⟩ := hx
    simp only at h1 h2
    have hk : t.k = k := by
      have h3 : okTkB k t := h3
      unfold okTkB at h3
      by_cases h1 : k = 1 ∨ k = 3
      · rw [if_pos h1] at h3; exact h3.1
      · rw [if_neg h1] at h3
        by_cases h2 : k = 4
        · rw [if_pos h2] at h3; exact h3.1
        · rw [if_neg h2] at h3; rw [h3]
    have hk2 : t.k.toNat = k := by omega
    show okTk t ∧ _
    refine ⟨okTk_b.2 ⟨⟨by omega, by omega⟩, by rw [hk2]; exact h3⟩, ?_⟩
    show eTk t = uv k ++ eTkB k t
    unfold eTk eTkB eI
    rw [hk2]
    congr 1
    simp only [show (t.k = 1 ∨ t.k = 3) ↔ (k = 1 ∨ k = 3) by omega, show t.k = 4 ↔ k = 4 by omega])
  (fun y hy => by
    obtain ⟨⟨h1, h2⟩, h3⟩ := okTk_b.1 hy
    exact ⟨⟨⟨by omega, by omega⟩, h3⟩, rfl⟩)
def noM : Mk := ⟨.empty, []⟩
def rStB (k : Nat) (f : Int) : RS → St × RS :=
  if k = 1 ∨ k = 6 then rS2 (fun t d => ⟨k, f, t, 0, 0, 0, d, noM, .empty, .empty⟩) rI (rL rTk)
  else if k = 2 then rS5 (fun t g e i d => ⟨k, f, t, g, e, i, d, noM, .empty, .empty⟩) rI rI rI rI (rL rTk)
  else if k = 3 ∨ k = 4 then rS2 (fun t m => ⟨k, f, t, 0, 0, 0, [], m, .empty, .empty⟩) rI rMk
  else if k = 5 then rS2 (fun n v => ⟨k, f, 0, 0, 0, 0, [], noM, n, v⟩) rT rT else fun s => (⟨k, f, 0, 0, 0, 0, [], noM, .empty, .empty⟩, s)
def okStB (k : Nat) (f : Int) (t : St) : Prop :=
  if k = 1 ∨ k = 6 then (t.k = k ∧ t.f = f ∧ t.g = 0 ∧ t.e = 0 ∧ t.i = 0 ∧ t.m = noM ∧ t.n = .empty ∧ t.v = .empty) ∧ okI t.t ∧ okL okTk t.mid
  else if k = 2 then (t.k = k ∧ t.f = f ∧ t.m = noM ∧ t.n = .empty ∧ t.v = .empty) ∧ okI t.t ∧ okI t.g ∧ okI t.e ∧ okI t.i ∧ okL okTk t.mid
  else if k = 3 ∨ k = 4 then (t.k = k ∧ t.f = f ∧ t.g = 0 ∧ t.e = 0 ∧ t.i = 0 ∧ t.mid = [] ∧ t.n = .empty ∧ t.v = .empty) ∧ okI t.t ∧ okMk t.m
  else if k = 5 then (t.k = k ∧ t.f = f ∧ t.t = 0 ∧ t.g = 0 ∧ t.e = 0 ∧ t.i = 0 ∧ t.mid = [] ∧ t.m = noM) ∧ okS t.n ∧ okS t.v else t = ⟨k, f, 0, 0, 0, 0, [], noM, .empty, .empty⟩
def eStB (k : Nat) (t : St) : List UInt8 :=
  if k = 1 ∨ k = 6 then eI t.t ++ eL eTk t.mid else if k = 2 then eI t.t ++ (eI t.g ++ (eI t.e ++ (eI t.i ++ eL eTk t.mid)))
   else if k = 3 ∨ k = 4 then eI t.t ++ eMk t.m else if k = 5 then eS t.n ++ eS t.v else []
theorem rStB_good (k : Nat) (f : Int) : Good (rStB k f) (okStB k f) (eStB k) := by
  unfold rStB okStB eStB
  by_cases h1 : k = 1 ∨ k = 6
  · simp only [if_pos h1]
    exact rI_good.s2 (rL_good rTk_good) (fun t d => (⟨k, f, t, 0, 0, 0, d, noM, .empty, .empty⟩ : St)) (fun t => (t.t, t.mid)) (fun x hx => ⟨⟨⟨rfl, rfl, rfl, rfl, rfl, rfl, rfl, rfl⟩, hx⟩, rfl⟩)
      (fun y hy => ⟨hy.2, by cases y; obtain ⟨⟨rfl, rfl, rfl, rfl, rfl, rfl, rfl, rfl⟩, _⟩ := hy; rfl⟩)
  · simp only [if_neg h1]
    by_cases h2 : k = 2
    · simp only [if_pos h2]
      exact rI_good.s5 rI_good rI_good rI_good (rL_good rTk_good) (fun t g e i d => (⟨k, f, t, g, e, i, d, noM, .empty, .empty⟩ : St)) (fun t => (t.t, t.g, t.e, t.i, t.mid)) (fun x hx => ⟨⟨⟨rfl, rfl, rfl, rfl, rfl⟩, hx⟩, rfl⟩)
        (fun y hy => ⟨hy.2, by cases y; obtain ⟨⟨rfl, rfl, rfl, rfl, rfl⟩, _⟩ := hy; rfl⟩)
    · simp only [if_neg h2]
      by_cases h3 : k = 3 ∨ k = 4
      · simp only [if_pos h3]
        exact rI_good.s2 rMk_good (fun t m => (⟨k, f, t, 0, 0, 0, [], m, .empty, .empty⟩ : St)) (fun t => (t.t, t.m)) (fun x hx => ⟨⟨⟨rfl, rfl, rfl, rfl, rfl, rfl, rfl, rfl⟩, hx⟩, rfl⟩)
          (fun y hy => ⟨hy.2, by cases y; obtain ⟨⟨rfl, rfl, rfl, rfl, rfl, rfl, rfl, rfl⟩, _⟩ := hy; rfl⟩)
      · simp only [if_neg h3]
        by_cases h4 : k = 5
        · simp only [if_pos h4]
          exact rT_good.s2 rT_good (fun n v => (⟨k, f, 0, 0, 0, 0, [], noM, n, v⟩ : St)) (fun t => (t.n, t.v)) (fun x hx => ⟨⟨⟨rfl, rfl, rfl, rfl, rfl, rfl, rfl, rfl⟩, hx⟩, rfl⟩)
            (fun y hy => ⟨hy.2, by cases y; obtain ⟨⟨rfl, rfl, rfl, rfl, rfl, rfl, rfl, rfl⟩, _⟩ := hy; rfl⟩)
        · simp only [if_neg h4]
          exact Good.nothing _
def rSt (s : RS) : St × RS := ((rStB (rK 6 s).1 (rI (rK 6 s).2).1 (rI (rK 6 s).2).2).1, (rStB (rK 6 s).1 (rI (rK 6 s).2).1 (rI (rK 6 s).2).2).2)
theorem okStB_k {k : Nat} {f : Int} {t : St} (h : okStB k f t) : t.k = k ∧ t.f = f := by
  unfold okStB at h
  by_cases h1 : k = 1 ∨ k = 6
  · rw [if_pos h1] at h; exact ⟨h.1.1, h.1.2.1⟩
  rw [if_neg h1] at h
  by_cases h2 : k = 2
  · rw [if_pos h2] at h; exact ⟨h.1.1, h.1.2.1⟩
  rw [if_neg h2] at h
  by_cases h3 : k = 3 ∨ k = 4
  · rw [if_pos h3] at h; exact ⟨h.1.1, h.1.2.1⟩
  rw [if_neg h3] at h
  by_cases h4 : k = 5
  · rw [if_pos h4] at h; exact ⟨h.1.1, h.1.2.1⟩
  rw [if_neg h4] at h
  rw [h]; exact ⟨rfl, rfl⟩
theorem okSt_b {t : St} : okSt t ↔ (1 ≤ t.k ∧ t.k ≤ 6) ∧ okI t.f ∧ okStB t.k.toNat t.f t := by
  obtain ⟨k, f, a, b, c, d, e, g, h, i⟩ := t
  unfold okSt okStB noM
  simp only [St.mk.injEq]
  constructor
  · rintro ⟨h0, ⟨rfl | rfl, h⟩ | ⟨rfl, h⟩ | ⟨rfl | rfl, h⟩ | ⟨rfl, h⟩⟩ <;> simp_all
  · rintro ⟨⟨h1, h2⟩, h0, h⟩
    obtain rfl | rfl | rfl | rfl | rfl | rfl : k = 1 ∨ k = 2 ∨ k = 3 ∨ k = 4 ∨ k = 5 ∨ k = 6 := by omega
    all_goals simp_all
theorem rSt_good : Good rSt okSt eSt := ((rK_good 6 (by unfold U64; decide)).bind fun k => rI_good.bind fun f => rStB_good k f).map (fun p => p.2.2) (fun t => (t.k.toNat, t.f, t))
  (fun x hx => by
    obtain ⟨k, f, t⟩ := x
    obtain ⟨⟨h1, h2⟩, h0, h3⟩ := hx
    obtain ⟨hk, hf⟩ := okStB_k h3
    simp only at hk hf h0 h1 h2
    have hk2 : t.k.toNat = k := by omega
    show okSt t ∧ _
    refine ⟨okSt_b.2 ⟨⟨by omega, by omega⟩, by rw [hf]; exact h0, by rw [hk2, hf]; exact h3⟩, ?_⟩
    show eSt t = uv k ++ (eI f ++ eStB k t)
    unfold eSt eStB
    rw [show eI t.k = uv k by unfold eI; rw [hk2], hf]
    congr 2
    simp only [show (t.k = 1 ∨ t.k = 6) ↔ (k = 1 ∨ k = 6) by omega, show t.k = 2 ↔ k = 2 by omega, show (t.k = 3 ∨ t.k = 4) ↔ (k = 3 ∨ k = 4) by omega, show t.k = 5 ↔ k = 5 by omega])
  (fun y hy => by
    obtain ⟨⟨h1, h2⟩, h0, h3⟩ := okSt_b.1 hy
    exact ⟨⟨⟨by omega, by omega⟩, h0, h3⟩, rfl⟩)
def rSp : RS → Sp × RS := rS3 Sp.mk rT rT rB
theorem rSp_good : Good rSp okSp eSp := rT_good.s3 rT_good rB_good Sp.mk (fun a => (a.n, a.d, a.m)) (fun _ hx => ⟨⟨hx.1, hx.2.1⟩, rfl⟩) (fun _ hy => ⟨⟨hy.1, hy.2, trivial⟩, rfl⟩)
def rTy : RS → Ty × RS := rS6 Ty.mk rT rT (rL rT) rB (rL rSp) (rL rT)
theorem rTy_good : Good rTy okTy eTy := rT_good.s6 rT_good (rL_good rT_good) rB_good (rL_good rSp_good) (rL_good rT_good) Ty.mk (fun a => (a.n, a.c, a.g, a.i, a.a, a.m))
  (fun _ hx => ⟨⟨hx.1, hx.2.1, hx.2.2.1, hx.2.2.2.2.1, hx.2.2.2.2.2⟩, rfl⟩) (fun _ hy => ⟨⟨hy.1, hy.2.1, hy.2.2.1, trivial, hy.2.2.2.1, hy.2.2.2.2⟩, rfl⟩)
def rMt : RS → Mt × RS := rS3 Mt.mk rT (rL rT) (rL rSp)
theorem rMt_good : Good rMt okMt eMt := rT_good.s3 (rL_good rT_good) (rL_good rSp_good) Mt.mk (fun a => (a.n, a.e, a.a)) (fun _ hx => ⟨hx, rfl⟩) (fun _ hy => ⟨hy, rfl⟩)
def rSc : RS → Sc × RS := rS2 Sc.mk (rL rTy) (rL rMt)
theorem rSc_good : Good rSc okSc eSc := (rL_good rTy_good).s2 (rL_good rMt_good) Sc.mk (fun a => (a.t, a.m)) (fun _ hx => ⟨hx, rfl⟩) (fun _ hy => ⟨hy, rfl⟩)
def RS.first (s : RS) : Nat := if s.f ≠ 0 then s.f else if s.n ≠ 0 then s.n else if 0 < s.l.length then 4 else 0
section
variable {α : Type} {r : RS → α × RS} {ok : α → Prop} {en : α → List UInt8}
theorem whole_ok (h : Good r ok en) {x : α} (hx : ok x) : (r ⟨en x, 0, 0⟩).1 = x ∧ (r ⟨en x, 0, 0⟩).2.first = 0 := by
  have := h.comp x [] hx
  rw [List.append_nil] at this
  rw [this]; exact ⟨rfl, rfl⟩
theorem whole_more (h : Good r ok en) {x : α} (hx : ok x) (c : UInt8) : (r ⟨en x ++ [c], 0, 0⟩).2.first = 4 := by
  rw [h.comp x [c] hx]; rfl
theorem whole_cut (h : Good r ok en) {x : α} (hx : ok x) (hne : en x ≠ []) : (r ⟨(en x).take ((en x).length - 1), 0, 0⟩).2.first = 5 := by
  have hpos := List.length_pos_iff.2 hne
  obtain ⟨a, b⟩ := h.cut x _ ((en x).drop ((en x).length - 1)) hx (List.take_append_drop _ _) (fun e => by have := congrArg List.length e; simp at this; omega)
  unfold RS.first
  rw [b, a]; rfl
theorem whole_one (h : Good r ok en) {l : List UInt8} (h0 : (r ⟨l, 0, 0⟩).2.first = 0) : l = en (r ⟨l, 0, 0⟩).1 := by
  unfold RS.first at h0
  by_cases h1 : (r ⟨l, 0, 0⟩).2.f ≠ 0
  · rw [if_pos h1] at h0; exact absurd h0 h1
  rw [if_neg h1] at h0
  by_cases h2 : (r ⟨l, 0, 0⟩).2.n ≠ 0
  · rw [if_pos h2] at h0; exact absurd h0 h2
  rw [if_neg h2] at h0
  by_cases h3 : 0 < (r ⟨l, 0, 0⟩).2.l.length
  · rw [if_pos h3] at h0; simp at h0
  obtain ⟨_, _, _, d⟩ := h.sound ⟨l, 0, 0⟩ (by omega) (by omega)
  rw [List.eq_nil_of_length_eq_zero (show (r ⟨l, 0, 0⟩).2.l.length = 0 by omega), List.append_nil] at d
  exact d
end
end Go.Proofs.YtjajcecenflejaaGreat
