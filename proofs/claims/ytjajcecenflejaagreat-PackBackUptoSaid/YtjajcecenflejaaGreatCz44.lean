/- YtjajcecenflejaaGreatCz44 -/
import Derived.Test.YtjajcecenflejaaGreatCz04
import Derived.Test.YtjajcecenflejaaGreatCz24
import Derived.Test.YtjajcecenflejaaGreatCz02
import Derived.Test.YtjajcecenflejaaGreatCz19
import Derived.Test.YtjajcecenflejaaGreatCz20
import Derived.Test.YtjajcecenflejaaGreatCz43
import Derived.Test.YtjajcecenflejaaGreatCz26
import Derived.Test.YtjajcecenflejaaGreatCz23
namespace Go.Proofs.YtjajcecenflejaaGreat
open Go.RowKit
theorem uS_dbk (s : ByteArray) : uS s ≤ 10 * dbk (dS s) := by show s.size + 10 ≤ 10 * (s.size + 1); omega
theorem uL_dbk {T : Type} [Cl T] (f : T → Nat) (l : List T) (h : ∀ x ∈ l, f x ≤ 10 * dbkL (Cl.c x)) : uL f l ≤ 10 * dbk (lD l) := by
  have e : dbk (lD l) = dbkL (cD l) + 1 := rfl
  rw [e, dbkL_cD]
  unfold uL
  have : (l.map f).sum ≤ 10 * (l.map fun y => dbkL (Cl.c y)).sum := by
    clear e
    induction l with
    | nil => simp
    | cons a r ih =>
      have h1 := h a (by simp)
      have h2 := ih fun x hx => h x (by simp [hx])
      simp only [List.map_cons, List.sum_cons]
      omega
  omega
theorem uS_c (s : ByteArray) : uS s ≤ 10 * dbkL (Cl.c s) := by
  have := uS_dbk s
  show _ ≤ 10 * (dbk (dS s) + 0)
  omega
theorem uAt_c (a : At) : uAt a ≤ 10 * dbkL (Cl.c a) := by
  have h1 := uS_dbk a.n
  have h2 := uS_dbk a.v
  show uS a.n + uS a.v ≤ 10 * (dbk (dS a.n) + (dbk (dS a.v) + 0))
  omega
theorem uMk_c (a : Mk) : uMk a ≤ 10 * dbkL (Cl.c a) := by
  have h1 := uS_dbk a.t
  have h2 := uL_dbk uAt a.a fun x _ => uAt_c x
  show uS a.t + uL uAt a.a ≤ 10 * (dbk (dS a.t) + (dbk (lD a.a) + 0))
  omega
theorem uTk_c (a : Tk) : uTk a ≤ 10 * dbkL (Cl.c a) := by
  have h1 := uS_dbk a.t
  have h2 := uL_dbk uAt a.a fun x _ => uAt_c x
  have h3 := uL_dbk uMk a.m fun x _ => uMk_c x
  show 20 + (uS a.t + (uL uAt a.a + uL uMk a.m)) ≤ 10 * (1 + (dbk (dS a.t) + (dbk (lD a.a) + (dbk (lD a.m) + (1 + 0)))))
  omega
theorem uSt_c (a : St) : uSt a ≤ 10 * dbkL (Cl.c a) := by
  have h1 := uL_dbk uTk a.mid fun x _ => uTk_c x
  have h2 := uS_dbk a.m.t
  have h3 := uL_dbk uAt a.m.a fun x _ => uAt_c x
  have h4 := uS_dbk a.n
  have h5 := uS_dbk a.v
  show 60 + (uL uTk a.mid + ((uS a.m.t + uL uAt a.m.a) + (uS a.n + uS a.v))) ≤ 10 * (1 + (1 + (1 + (1 + (1 + (1 + (dbk (lD a.mid) + (dbk (dS a.m.t) + (dbk (lD a.m.a) + (dbk (dS a.n) + (dbk (dS a.v) + 0)))))))))))
  omega
theorem uSp_c (a : Sp) : uSp a ≤ 10 * dbkL (Cl.c a) := by
  have h1 := uS_dbk a.n
  have h2 := uS_dbk a.d
  show uS a.n + (uS a.d + 10) ≤ 10 * (dbk (dS a.n) + (dbk (dS a.d) + (1 + 0)))
  omega
theorem uTy_c (a : Ty) : uTy a ≤ 10 * dbkL (Cl.c a) := by
  have h1 := uS_dbk a.n
  have h2 := uS_dbk a.c
  have h3 := uL_dbk uS a.g fun x _ => uS_c x
  have h4 := uL_dbk uSp a.a fun x _ => uSp_c x
  have h5 := uL_dbk uS a.m fun x _ => uS_c x
  show uS a.n + (uS a.c + (uL uS a.g + (10 + (uL uSp a.a + uL uS a.m)))) ≤ 10 * (dbk (dS a.n) + (dbk (dS a.c) + (dbk (lD a.g) + (1 + (dbk (lD a.a) + (dbk (lD a.m) + 0))))))
  omega
theorem uMt_c (a : Mt) : uMt a ≤ 10 * dbkL (Cl.c a) := by
  have h1 := uS_dbk a.n
  have h2 := uL_dbk uS a.e fun x _ => uS_c x
  have h3 := uL_dbk uSp a.a fun x _ => uSp_c x
  show uS a.n + (uL uS a.e + uL uSp a.a) ≤ 10 * (dbk (dS a.n) + (dbk (lD a.e) + (dbk (lD a.a) + 0)))
  omega
theorem uSc_d (s : Sc) : uSc s ≤ 10 * (dbk (lD s.t) + (dbk (lD s.m) + 0)) := by
  have h1 := uL_dbk uTy s.t fun x _ => uTy_c x
  have h2 := uL_dbk uMt s.m fun x _ => uMt_c x
  show uL uTy s.t + uL uMt s.m ≤ _
  omega
theorem uNd_c (n : Nd) : uNd n ≤ 10 * dbkL (Cl.c n) := by
  induction n using Nd.ind with
  | h t a m x k ih =>
  have h1 := uS_dbk t
  have h2 := uL_dbk uAt a fun x _ => uAt_c x
  have h3 := uL_dbk uMk m fun x _ => uMk_c x
  have h4 := uS_dbk x
  have h5 := uL_dbk uNd k ih
  rw [uNd_eq, show Cl.c (Nd.mk t a m x k) = [dS t, lD a, lD m, dS x, lD k] from Nd.c_eq _]
  show uS t + (uL uAt a + (uL uMk m + (uS x + uL uNd k))) ≤ 10 * (dbk (dS t) + (dbk (lD a) + (dbk (lD m) + (dbk (dS x) + (dbk (lD k) + 0)))))
  omega
theorem char_fine {l : List St} (h : FineD (lD l)) : ∀ s ∈ l, ∀ x ∈ s.mid, 0 ≤ x.c ∧ x.c < 256 := fun s hs x hx => by
  have h1 : fineL (Cl.c s) := h.mem hs
  have h2 : FineD (lD s.mid) := h1 _ (by simp [Cl.c])
  have h3 : fineL (Cl.c x) := h2.mem hx
  have h4 : FineD (.v (.int .u8 x.c)) := h3 _ (by simp [Cl.c])
  have := h4.wf
  simp [Lit.wf] at this
  have e0 : IntKind.u8.min = 0 := rfl
  have e1 : IntKind.u8.max = 255 := rfl
  exact ⟨by omega, by omega⟩
end Go.Proofs.YtjajcecenflejaaGreat
namespace Go.Proofs.YtjajcecenflejaaGreat
open Go.RowKit
def Picks (w : World) (m : Nat) (e : Ending) (w' : World) : Prop := ∃ k : Nat, e = .returned (.int .i64 (k : Int)) ∧ k < m ∧ w = w'
set_option maxRecDepth 100000 in
set_option maxHeartbeats 400000 in
theorem pick_any (n : Int) (m : Nat) (w : World) (hm : 0 < m) (hm2 : m ≤ 1000000000) :
    Calls Tryz.prog 11 #[.int .i64 n, .int .i64 (m : Int)] w (Picks w m) := by
  by_cases hn : 0 ≤ n
  · have hlt : n % (m : Int) < (m : Int) := Int.emod_lt_of_pos _ (by omega)
    have hge : 0 ≤ n % (m : Int) := Int.emod_nonneg _ (by omega)
    obtain ⟨k, hk⟩ : ∃ k : Nat, n % (m : Int) = (k : Int) := ⟨(n % (m : Int)).toNat, by omega⟩
    go_enter Tryz.func11, Tryz.ntmps11
    go_wp2
    go_ret
    exact ⟨k, ret_int hk, by omega, rfl⟩
  · have hneg : n = -((-n).toNat : Int) := by omega
    have ht : n.tmod (m : Int) = -((((-n).toNat % m : Nat) : Int)) := by
      rw [hneg, Int.neg_tmod, Int.tmod_eq_emod_of_nonneg (by omega)]
      simp
    have hlt := Nat.mod_lt (-n).toNat hm
    have h1 : -(m : Int) < n.tmod (m : Int) := by omega
    have h2 : n.tmod (m : Int) ≤ 0 := by omega
    have Ht := Lib.hid ht
    clear ht hneg
    by_cases h0 : n.tmod (m : Int) < 0
    · go_enter Tryz.func11, Tryz.ntmps11
      go_wp2
      go_ret
      exact ⟨(n.tmod (m : Int) + m).toNat, ret_int (by omega), by omega, rfl⟩
    · go_enter Tryz.func11, Tryz.ntmps11
      go_wp2
      go_ret
      exact ⟨0, ret_int (by omega), by omega, rfl⟩
end Go.Proofs.YtjajcecenflejaaGreat
namespace Go.Proofs.YtjajcecenflejaaGreat
open Go.RowKit
theorem en_ne (n : Nat) (r : List UInt8) : uv n ++ r ≠ [] := fun h => by
  have h3 := congrArg List.length h
  have h2 := Lib.uvarint_pos n
  rw [List.length_append, List.length_nil] at h3
  have h4 : (uv n).length = (Lib.uvarint n).length := rfl
  omega
theorem enS_ne (t : ByteArray) (r : List UInt8) : eS t ++ r ≠ [] := by unfold eS; rw [List.append_assoc]; exact en_ne _ _
theorem nd_facts (n : Nd) (hok : okNd 16 n) : eNd n ≠ [] ∧
    (∀ (v : Value) (b : Nat) (w : World), Bs w b v (eNd n) → (eNd n).length ≤ 1000000000 → Calls Tryz.prog 14 #[v] w (GetS Isnd w 0 n)) ∧
    (∀ (v : Value) (b : Nat) (w : World), Bs w b v ((eNd n).take ((eNd n).length - 1)) → (eNd n).length ≤ 1000000000 → ∃ y, Calls Tryz.prog 14 #[v] w (GetS Isnd w 5 y)) := by
  have hg := rNd_good 16
  have hne : eNd n ≠ [] := by rw [eNd_eq]; exact enS_ne _ _
  refine ⟨hne, fun v b w hb hl => ?_, fun v b w hb hl => ?_⟩
  · have h := read_nd v _ b w hb hl
    rw [(whole_ok hg hok).1, (whole_ok hg hok).2] at h
    exact h
  · have h := read_nd v _ b w hb (by rw [List.length_take]; omega)
    rw [whole_cut hg hok hne] at h
    exact ⟨_, h⟩
theorem st_facts (l : List St) (hok : okL okSt l) : eL eSt l ≠ [] ∧
    (∀ (v : Value) (b : Nat) (w : World), Bs w b v (eL eSt l) → (eL eSt l).length ≤ 1000000000 → Calls Tryz.prog 9 #[v] w (GetT w 0 fun v' w' => Ls w' (fun k => w.heap.size ≤ k) v' l)) ∧
    (∀ (v : Value) (b : Nat) (w : World), Bs w b v ((eL eSt l).take ((eL eSt l).length - 1)) → (eL eSt l).length ≤ 1000000000 → ∃ V, Calls Tryz.prog 9 #[v] w (GetT w 5 V)) ∧
    (∀ (v : Value) (b : Nat) (w : World), Bs w b v (eL eSt l ++ [0]) → (eL eSt l).length ≤ 1000000000 - 1 → ∃ V, Calls Tryz.prog 9 #[v] w (GetT w 4 V)) ∧
    (∀ m : List UInt8, m.length ≤ 1000000000 → ∃ (n : Nat) (y : List St), (n = 0 → m ≠ eL eSt l → y ≠ l) ∧ ∀ (v : Value) (b : Nat) (w : World), Bs w b v m → Calls Tryz.prog 9 #[v] w (GetT w n fun v' w' => Ls w' (fun k => w.heap.size ≤ k) v' y)) := by
  have hg := rL_good rSt_good
  have hne : eL eSt l ≠ [] := by unfold eL; exact en_ne _ _
  refine ⟨hne, fun v b w hb hl => ?_, fun v b w hb hl => ?_, fun v b w hb hl => ?_, fun m hm => ?_⟩
  · have h := readSteps_any v _ b w hb hl
    rw [(whole_ok hg hok).1, (whole_ok hg hok).2] at h
    exact h
  · have h := readSteps_any v _ b w hb (by rw [List.length_take]; omega)
    rw [whole_cut hg hok hne] at h
    exact ⟨_, h⟩
  · have h := readSteps_any v _ b w hb (by simp; omega)
    rw [whole_more hg hok] at h
    exact ⟨_, h⟩
  · refine ⟨_, _, fun h0 hne2 e => ?_, fun v b w hb => readSteps_any v _ b w hb hm⟩
    have := whole_one hg h0
    rw [e] at this
    exact hne2 this
theorem sc_facts (n : Sc) (hok : okSc n) : eSc n ≠ [] ∧
    (∀ (v : Value) (b : Nat) (w : World), Bs w b v (eSc n) → (eSc n).length ≤ 1000000000 → Calls Tryz.prog 17 #[v] w (GetS Issch w 0 n)) := by
  have hne : eSc n ≠ [] := by unfold eSc eL; rw [List.append_assoc]; exact en_ne _ _
  refine ⟨hne, fun v b w hb hl => ?_⟩
  have h := read_sch v _ b w hb hl
  rw [(whole_ok rSc_good hok).1, (whole_ok rSc_good hok).2] at h
  exact h
theorem flip8 (c : UInt8) (n : Nat) (hn : n < 256) : ∃ u : UInt8, bits .xor .u8 (c.toNat : Int) (n : Int) = (u.toNat : Int) ∧ (u = c → n = 0) := by
  have hc := c.toNat_lt
  have hx : c.toNat ^^^ n < 2 ^ 8 := Nat.xor_lt_two_pow (by omega) (by omega)
  have ht : (UInt8.ofNat (c.toNat ^^^ n)).toNat = c.toNat ^^^ n := by rw [UInt8.toNat_ofNat']; exact Nat.mod_eq_of_lt hx
  refine ⟨UInt8.ofNat (c.toNat ^^^ n), by rw [u8_xor_nat _ _ (by omega) (by omega), ht], fun h => ?_⟩
  have h2 := congrArg UInt8.toNat h
  rw [ht] at h2
  have h3 : c.toNat ^^^ (c.toNat ^^^ n) = c.toNat ^^^ c.toNat := by rw [h2]
  rw [← Nat.xor_assoc, Nat.xor_self, Nat.zero_xor] at h3
  exact h3
def Pk (w : World) (x0 : Nat) (cn : Array Value) (x1 : Nat) (cs : Array Value) (wk : World) : Prop := Below w.heap.size w wk ∧ Bk wk x0 26 cn ∧ Bk wk x1 31 cs
theorem Pk.all {w : World} {x0 x1 : Nat} {cn cs : Array Value} {wk wk' : World} (h : Pk w x0 cn x1 cs wk) (hb : Below wk.heap.size wk wk') : Pk w x0 cn x1 cs wk' := ⟨h.1.trans (hb.mono h.1.size), h.2.1.all hb, h.2.2.all hb⟩
theorem Ls.low {T : Type} [Cl T] {w wk : World} {v : Value} {l : List T} (h : Ls w (fun _ => True) v l) (hb : Below w.heap.size w wk) : Ls wk (fun b => b < wk.heap.size) v l := (h.under hb).mono fun _ _ h => h
set_option maxRecDepth 100000 in
set_option maxHeartbeats 4000000 in
theorem packBack_walk (n : Nd) (l : List St) (s : Sc) (at_ : Int) (nb : Nat) (va vm vk vl vt vmm : Value) (w : World) (ha : Ls w (fun _ => True) va n.a) (hm : Ls w (fun _ => True) vm n.m) (hk : Ls w (fun _ => True) vk n.k) (hl : Ls w (fun _ => True) vl l)
    (ht : Ls w (fun _ => True) vt s.t) (hmm : Ls w (fun _ => True) vmm s.m) (hc : ∀ s ∈ l, ∀ x ∈ s.mid, 0 ≤ x.c ∧ x.c < 256) (hu1 : uNd n ≤ limW) (hu2 : uL uSt l ≤ limW) (hu3 : uSc s ≤ limW) (hnb : nb < 256) :
    Calls Tryz.prog 3 #[.agg #[.string n.t, va, vm, .string n.x, vk], vl, .agg #[vt, vmm], .int .i64 at_, .int .u8 (nb : Int)] w fun e w' => e = .returned (.bool true) ∧ Below w.heap.size w w' := by
  obtain ⟨Aa, ca, rfl⟩ := ha.form
  obtain ⟨Am, cm, rfl⟩ := hm.form
  obtain ⟨Ak, ck, rfl⟩ := hk.form
  obtain ⟨Al, cl, rfl⟩ := hl.form
  obtain ⟨At, ct, rfl⟩ := ht.form
  obtain ⟨Ax, cx, rfl⟩ := hmm.form
  have HC := Lib.hid hc
  have HA := Lib.hid ha
  have HM := Lib.hid hm
  have HK := Lib.hid hk
  have HL := Lib.hid hl
  have HT := Lib.hid ht
  have HX := Lib.hid hmm
  have U1 := Lib.hid hu1
  have U2 := Lib.hid hu2
  have U3 := Lib.hid hu3
  obtain ⟨x0, hx0⟩ : ∃ x, Hid (x = w.heap.size) := ⟨_, Lib.hid rfl⟩
  obtain ⟨x1, hx1⟩ : ∃ x, Hid (x = w.heap.size + 1) := ⟨_, Lib.hid rfl⟩
  obtain ⟨W0, hW0⟩ : ∃ x, Hid (x = (w.alloc (.cells #[.string n.t, .slice Aa n.a.length ca, .slice Am n.m.length cm, .string n.x, .slice Ak n.k.length ck] 26)).alloc (.cells #[.slice At s.t.length ct, .slice Ax s.m.length cx] 31)) := ⟨_, Lib.hid rfl⟩
  have P0 : Hid (Pk w x0 #[.string n.t, .slice Aa n.a.length ca, .slice Am n.m.length cm, .string n.x, .slice Ak n.k.length ck] x1 #[.slice At s.t.length ct, .slice Ax s.m.length cx] W0) := by
    show Pk _ _ _ _ _ _
    rw [hW0.out, hx0.out, hx1.out]
    refine ⟨((Below.refl _ _).alloc (Nat.le_refl _) _).alloc (by simp) _, (Bk.new _ _ _).alloc _, ?_⟩
    have := Bk.new (w.alloc (.cells #[.string n.t, .slice Aa n.a.length ca, .slice Am n.m.length cm, .string n.x, .slice Ak n.k.length ck] 26)) 31 #[.slice At s.t.length ct, .slice Ax s.m.length cx]
    rwa [World.size_alloc] at this
  clear ha hm hk hl ht hmm hc hu1 hu2 hu3
  go_enter Tryz.func3, Tryz.ntmps3
  go_wp2_with fail
  rw [← hW0.out, ← hx1.out, ← hx0.out]
  refine (packLives_walk W0).mono ?_
  rintro e W1 ⟨rfl, hb1⟩
  have P1 := Lib.hid (P0.out.all hb1)
  clear hb1
  have n10 := cell_of P1.out.2.1 0 rfl
  have n11 := cell_of P1.out.2.1 1 rfl
  have n12 := cell_of P1.out.2.1 2 rfl
  have n13 := cell_of P1.out.2.1 3 rfl
  have n14 := cell_of P1.out.2.1 4 rfl
  go_wp2_with fail
  refine (kWeigh_any (fun _ => True) 3000 n _ W1 ⟨_, _, _, rfl, HA.out.under P1.out.1, HM.out.under P1.out.1, HK.out.under P1.out.1⟩).mono ?_
  rintro e W2 ⟨⟨z, rfl⟩, hb2⟩
  have P2 := Lib.hid (P1.out.all hb2)
  clear hb2 n10 n11 n12 n13 n14
  have s20 := cell_of P2.out.2.2 0 rfl
  have s21 := cell_of P2.out.2.2 1 rfl
  by_cases hz : 3000 < z
  · go_wp2
    go_ret
    exact ⟨rfl, P2.out.1⟩
  go_wp2_with fail
  refine (kHeavy_any _ s (fun _ => True) W2 ⟨_, _, rfl, HT.out.under P2.out.1, HX.out.under P2.out.1⟩).mono ?_
  rintro e W3 ⟨⟨z2, rfl⟩, hb3⟩
  have P3 := Lib.hid (P2.out.all hb3)
  clear hb3 s20 s21
  by_cases hz2 : 3000 < z2
  · go_wp2
    go_ret
    exact ⟨rfl, P3.out.1⟩
  go_wp2_with fail
  refine (few_any l _ (fun _ => True) W3 (HL.out.under P3.out.1)).mono ?_
  rintro e W4 ⟨bf, rfl, rfl⟩
  cases bf
  · go_wp2
    go_ret
    exact ⟨rfl, P3.out.1⟩
  go_wp2_with fail
  refine (packSteps_any l HC.out _ W3 (HL.out.low P3.out.1) U2.out).mono ?_
  rintro e W4 ⟨vb, k, rfl, hb4, hform, hk4⟩
  have P4 := Lib.hid (P3.out.all hb4)
  clear hb4
  go_upto_if 50 with fail
  go_cut [13, 14, 15, 16, 17, 18, 19, 20, 21, 22] (fun _ _ _ _ _ _ _ _ _ _ wx => Hid (Pk w x0 #[.string n.t, .slice Aa n.a.length ca, .slice Am n.m.length cm, .string n.x, .slice Ak n.k.length ck] x1 #[.slice At s.t.length ct, .slice Ax s.m.length cx] wx))
  case first =>
    by_cases hk0 : k = 0
    · subst hk0
      obtain ⟨hok, how, hlen⟩ := hk4.out rfl
      obtain ⟨en, hen⟩ : ∃ en, Hid (en = eL eSt l) := ⟨_, Lib.hid rfl⟩
      obtain ⟨hne, f0, f5, f4, f1⟩ := st_facts l hok
      rw [← hen.out] at how hlen hne f0 f5 f4 f1
      obtain ⟨Ab, cb, hvb⟩ := how.form
      subst hvb
      unfold limW at hlen
      have hpos : 0 < en.length := List.length_pos_iff.2 hne
      obtain ⟨bb, hbs, _, _⟩ := how.bs
      have HBS := Lib.hid hbs
      have F5 := Lib.hid f5
      have F4 := Lib.hid f4
      have F1 := Lib.hid f1
      have HKK := Lib.hid (f0 _ bb W4 hbs (by omega))
      clear hk4 hform hok hen hne how hbs f0 f5 f4 f1
      go_wp2_with fail
      refine HKK.out.mono ?_
      clear HKK
      rintro e W5 ⟨v5, rfl, hb5, hy5⟩
      have l5 := hy5 rfl
      obtain ⟨A5, c5, rfl⟩ := l5.form
      have P5 := Lib.hid (P4.out.all hb5)
      have HB5 := Lib.hid (HBS.out.all hb5)
      have L5 := Lib.hid l5
      clear hb5 HBS hy5 l5 P4
      obtain ⟨hcap, hsh⟩ := HB5.out.short (en.length - 1) (by omega)
      have hln : ((en.length : Int) - 1) = ((en.length - 1 : Nat) : Int) := by omega
      obtain ⟨V6, k6⟩ := F5.out _ bb W5 hsh (by omega)
      have K6 := Lib.hid k6
      have hl1 : (0 : Int) ≤ (en.length : Int) - 1 := by omega
      have hl2 : (en.length : Int) - 1 ≤ (cb : Int) := by omega
      clear hsh k6 F5
      go_wp2_with fail
      refine K6.out.mono ?_
      clear K6
      rintro e W6 ⟨v6, rfl, hb6, _⟩
      have P6 := Lib.hid (P5.out.all hb6)
      have HB6 := Lib.hid (HB5.out.all hb6)
      have L6 := Lib.hid (L5.out.under hb6)
      clear hb6 P5 HB5 L5 hl1 hl2 hln hcap
      go_wp2_with fail
      refine (own_any _ en bb W6 HB6.out (by omega)).mono ?_
      rintro e W7 ⟨v7, rfl, ho7, hb7⟩
      have HO7 := Lib.hid (ho7.alloc (.cells #[.int .u8 0] 5))
      have hlt7 := ho7.lt
      have hs7 : W6.heap.size ≤ W7.heap.size := hb7.size
      have H7 := Lib.hid hb7
      have HT7 := Lib.hid hlt7
      clear ho7 hb7 hlt7
      go_wp2_with (at_builtin; refine wpList_app _ rfl _ _ _ _ rfl Tryz.underlying36 infoB W6.heap.size rfl rfl HO7.out (Bs.lit1 W7 5 0 0 rfl) ?_ ?_ ?_)
      · simp; omega
      · simp; omega
      intro v9 W9 ho9 hg9 _
      have hb9 : Below W6.heap.size W6 W9 := (H7.out.alloc hs7 _).grown hg9 (by simp; omega) (fun k hk => (HT7.out k hk).1)
      have P9 := Lib.hid (P6.out.all hb9)
      have HB9 := Lib.hid (HB6.out.all hb9)
      have L9 := Lib.hid (L6.out.under hb9)
      obtain ⟨b9, ob9, _, _⟩ := ho9.bs
      obtain ⟨V9, k9⟩ := F4.out _ b9 W9 ob9 (by omega)
      have K9 := Lib.hid k9
      clear hb9 hg9 ho9 ob9 k9 F4 HO7 H7 HT7 hs7 P6 HB6 L6
      go_wp2_with fail
      refine K9.out.mono ?_
      clear K9
      rintro e W10 ⟨v10, rfl, hb10, _⟩
      have P10 := Lib.hid (P9.out.all hb10)
      have HB10 := Lib.hid (HB9.out.all hb10)
      have L10 := Lib.hid (L9.out.under hb10)
      clear hb10 P9 HB9 L9
      go_wp2_with fail
      refine (own_any _ en bb W10 HB10.out (by omega)).mono ?_
      rintro e W11 ⟨v11, rfl, ho11, hb11⟩
      obtain ⟨g, c11, rfl⟩ : ∃ g c2, v11 = .slice (some ⟨g, 0, none⟩) en.length c2 := by
        rcases ho11.2 with ⟨_, hn⟩ | ⟨g, c2, cur, h, _⟩
        · omega
        · exact ⟨g, c2, h⟩
      have P11 := Lib.hid (P10.out.all hb11)
      have L11 := Lib.hid (L10.out.under hb11)
      have HO11 := Lib.hid ho11
      have hg10 : W10.heap.size ≤ g := (ho11.lt g rfl).1
      have HB11 := Lib.hid hb11
      clear ho11 hb11
      go_wp2_with fail
      refine (pick_any at_ en.length W11 hpos (by omega)).mono ?_
      rintro e W12 ⟨j, rfl, hj, rfl⟩
      obtain ⟨c, hc⟩ : ∃ c : UInt8, Hid (c = en.getD j 0) := ⟨_, rfl⟩
      have hcell : W11.cell? ⟨g, j, none⟩ = some (.int .u8 (c.toNat : Int)) := by
        have h := World.ownsRow.cellAt HO11.out j (by omega)
        rw [h, cellsB_get _ _ hj, ← hc.out]
      have hfz := World.ownsRow.frozenAt HO11.out j
      obtain ⟨u, hu, hz⟩ := flip8 c nb hnb
      obtain ⟨W12, hW12⟩ : ∃ x, Hid (x = W11.setCell ⟨g, j, none⟩ (.int .u8 (u.toNat : Int))) := ⟨_, Lib.hid rfl⟩
      have ho12 : Ow W12 5 W10.heap.size (.slice (some ⟨g, 0, none⟩) (en.set j u).length c11) (en.set j u) := by
        have h := (World.ownsRow.stored HO11.out j (.int .u8 (u.toNat : Int))).1
        rw [hW12.out]
        unfold Ow
        rw [List.length_set]
        have e1 : cellsB (en.set j u) = (cellsB en).set j (.int .u8 (u.toNat : Int)) := by simp [cellsB, List.map_set]
        rw [e1]; exact h
      have hb12 : Below W10.heap.size W10 W12 := by rw [hW12.out]; exact HB11.out.setCell (p := ⟨g, j, none⟩) hg10 _
      have P12 := Lib.hid (P10.out.all hb12)
      have L12 := Lib.hid (L10.out.under hb12)
      obtain ⟨b12, ob12, _, _⟩ := ho12.bs
      obtain ⟨n2, y2, hny, hrd⟩ := F1.out (en.set j u) (by rw [List.length_set]; omega)
      have hne2 : nb ≠ 0 → en.set j u ≠ en := by
        intro hnb0 he
        have h2 : (en.set j u)[j]? = en[j]? := by rw [he]
        rw [List.getElem?_set_self hj] at h2
        have h3 : en.getD j 0 = u := by rw [List.getD_eq_getElem?_getD, ← h2]; rfl
        exact hnb0 (hz (h3 ▸ hc.out).symm)
      have HNE : Hid (n2 = 0 → nb ≠ 0 → y2 ≠ l) := fun a b => hny a (hne2 b)
      have hb12' := hrd _ b12 W12 ob12
      rw [List.length_set] at hb12'
      have K12 := Lib.hid hb12'
      clear hb12 ho12 ob12 hny hrd hne2 hb12' HB10 F1 HO11 HB11 P10 L10 P11 L11 hz hc
      go_wp2_with fail
      rw [← hW12.out]
      clear hW12 hcell hfz hu
      refine K12.out.mono ?_
      clear K12
      rintro e W13 ⟨v13, rfl, hb13, hv13⟩
      have P13 := Lib.hid (P12.out.all hb13)
      have L13 := Lib.hid (L12.out.under hb13)
      have HV13 := Lib.hid hv13
      clear hb13 hv13 P12 L12
      have KS := kSteps_any _ _ l l _ _ W13 L13.out (HL.out.under P13.out.1)
      rw [tf_yes rfl] at KS
      have KS := Lib.hid KS
      clear L13
      by_cases hnb0 : nb = 0
      · have hq : ((nb : Int) != 0) = false := by rw [hnb0]; rfl
        clear HV13 HNE hnb0
        go_wp2_with fail
        refine KS.out.mono ?_
        clear KS
        rintro e W14 ⟨rfl, hb14⟩
        have P14 := Lib.hid (P13.out.all hb14)
        clear hb14 P13
        go_wp2_with fail
        go_meet
        exact P14
      have hq : ((nb : Int) != 0) = true := by rw [bne_iff_ne]; omega
      by_cases hn2 : n2 = 0
      · have hy2 := HNE.out hn2 hnb0
        subst hn2
        have l13 := HV13.out rfl
        obtain ⟨A13, c13, rfl⟩ := l13.form
        have L13 := Lib.hid l13
        clear HV13 HNE l13 hnb0
        go_wp2_with fail
        refine KS.out.mono ?_
        clear KS
        rintro e W14 ⟨rfl, hb14⟩
        have P14 := Lib.hid (P13.out.all hb14)
        have KS := kSteps_any _ _ y2 l _ _ W14 (L13.out.under hb14) (HL.out.under P14.out.1)
        rw [tf_no hy2] at KS
        have KS := Lib.hid KS
        clear hb14 P13 L13 hy2
        go_wp2_with fail
        refine KS.out.mono ?_
        clear KS
        rintro e W15 ⟨rfl, hb15⟩
        have P15 := Lib.hid (P14.out.all hb15)
        clear hb15 P14
        go_wp2_with fail
        go_meet
        exact P15
      · have hq2 : ((n2 : Int) == 0) = false := by rw [beq_eq_false_iff_ne]; omega
        clear HV13 HNE hnb0 hn2
        go_wp2_with fail
        refine KS.out.mono ?_
        clear KS
        rintro e W14 ⟨rfl, hb14⟩
        have P14 := Lib.hid (P13.out.all hb14)
        clear hb14 P13
        go_wp2_with fail
        go_meet
        exact P14
    · go_wp2_with fail
      go_meet
      exact P4
  case rest =>
    clear hk4 hform P4 P3 HL HC U2
    have n10 := cell_of hcut.out.2.1 0 rfl
    have n11 := cell_of hcut.out.2.1 1 rfl
    have n12 := cell_of hcut.out.2.1 2 rfl
    have n13 := cell_of hcut.out.2.1 3 rfl
    have n14 := cell_of hcut.out.2.1 4 rfl
    have KN := Lib.hid (packNode_any n _ _ _ wc (HA.out.low hcut.out.1) (HM.out.low hcut.out.1) (HK.out.low hcut.out.1) U1.out)
    go_wp2_with fail
    refine KN.out.mono ?_
    clear KN
    rintro e W4 ⟨vb, k, rfl, hb4, hform, hk4⟩
    have P4 := Lib.hid (hcut.out.all hb4)
    clear hb4 hcut n10 n11 n12 n13 n14
    go_upto_if 128 with fail
    go_cut [23, 24, 25, 26] (fun _ _ _ _ wx => Hid (Pk w x0 #[.string n.t, .slice Aa n.a.length ca, .slice Am n.m.length cm, .string n.x, .slice Ak n.k.length ck] x1 #[.slice At s.t.length ct, .slice Ax s.m.length cx] wx))
    case first =>
      by_cases hk0 : k = 0
      · subst hk0
        obtain ⟨hok, how, hlen⟩ := hk4.out rfl
        obtain ⟨en, hen⟩ : ∃ en, Hid (en = eNd n) := ⟨_, Lib.hid rfl⟩
        obtain ⟨hne, f0, f5⟩ := nd_facts n hok
        rw [← hen.out] at how hlen hne f0 f5
        obtain ⟨Ab, cb, hvb⟩ := how.form
        subst hvb
        unfold limW at hlen
        have hpos : 0 < en.length := List.length_pos_iff.2 hne
        obtain ⟨bb, hbs, _, _⟩ := how.bs
        have HBS := Lib.hid hbs
        have F5 := Lib.hid f5
        have HKK := Lib.hid (f0 _ bb W4 hbs (by omega))
        clear hk4 hform hok hen hne how hbs f0 f5
        go_wp2_with fail
        refine HKK.out.mono ?_
        clear HKK
        rintro e W5 ⟨v5, y5, rfl, hb5, ⟨va5, vm5, vk5, rfl, la5, lm5, lk5⟩, hy5⟩
        have e5 := hy5 rfl
        subst y5
        obtain ⟨A5a, c5a, rfl⟩ := la5.form
        obtain ⟨A5m, c5m, rfl⟩ := lm5.form
        obtain ⟨A5k, c5k, rfl⟩ := lk5.form
        have P5 := Lib.hid (P4.out.all hb5)
        have HB5 := Lib.hid (HBS.out.all hb5)
        have L5a := Lib.hid la5
        have L5m := Lib.hid lm5
        have L5k := Lib.hid lk5
        clear hb5 HBS hy5 la5 lm5 lk5 P4
        obtain ⟨W6, hW6⟩ : ∃ x, Hid (x = W5.alloc (.cells #[.string n.t, .slice A5a n.a.length c5a, .slice A5m n.m.length c5m, .string n.x, .slice A5k n.k.length c5k] 26)) := ⟨_, Lib.hid rfl⟩
        obtain ⟨x5, hx5⟩ : ∃ x, Hid (x = W5.heap.size) := ⟨_, Lib.hid rfl⟩
        have hb6 : Below W5.heap.size W5 W6 := by rw [hW6.out]; exact (Below.refl _ _).alloc (Nat.le_refl _) _
        have P6 := Lib.hid (P5.out.all hb6)
        have HB6 := Lib.hid (HB5.out.all hb6)
        have L6a := Lib.hid (L5a.out.under hb6)
        have L6m := Lib.hid (L5m.out.under hb6)
        have L6k := Lib.hid (L5k.out.under hb6)
        have N6 : Hid (Bk W6 x5 26 #[.string n.t, .slice A5a n.a.length c5a, .slice A5m n.m.length c5m, .string n.x, .slice A5k n.k.length c5k]) := by show Bk _ _ _ _; rw [hW6.out, hx5.out]; exact Bk.new _ _ _
        obtain ⟨hcap, hsh⟩ := HB6.out.short (en.length - 1) (by omega)
        have hln : ((en.length : Int) - 1) = ((en.length - 1 : Nat) : Int) := by omega
        obtain ⟨y6, k6⟩ := F5.out _ bb W6 hsh (by omega)
        have K6 := Lib.hid k6
        have hl1 : (0 : Int) ≤ (en.length : Int) - 1 := by omega
        have hl2 : (en.length : Int) - 1 ≤ (cb : Int) := by omega
        clear hsh k6 hb6 P5 HB5 L5a L5m L5k F5
        go_wp2_with fail
        rw [← hW6.out, ← hx5.out]
        clear hW6 hx5
        refine K6.out.mono ?_
        clear K6
        rintro e W7 ⟨v7, y7, rfl, hb7, ⟨va7, vm7, vk7, rfl, la7, lm7, lk7⟩, _⟩
        obtain ⟨A7a, c7a, rfl⟩ := la7.form
        obtain ⟨A7m, c7m, rfl⟩ := lm7.form
        obtain ⟨A7k, c7k, rfl⟩ := lk7.form
        obtain ⟨W8, hW8⟩ : ∃ x, Hid (x = W7.alloc (.cells #[.string y7.t, .slice A7a y7.a.length c7a, .slice A7m y7.m.length c7m, .string y7.x, .slice A7k y7.k.length c7k] 26)) := ⟨_, Lib.hid rfl⟩
        have hb8 : Below W6.heap.size W6 W8 := by rw [hW8.out]; exact hb7.alloc hb7.size _
        have P8 := Lib.hid (P6.out.all hb8)
        have L8a := Lib.hid (L6a.out.under hb8)
        have L8m := Lib.hid (L6m.out.under hb8)
        have L8k := Lib.hid (L6k.out.under hb8)
        have N8 := Lib.hid (N6.out.all hb8)
        have n10 := cell_of P8.out.2.1 0 rfl
        have n11 := cell_of P8.out.2.1 1 rfl
        have n12 := cell_of P8.out.2.1 2 rfl
        have n13 := cell_of P8.out.2.1 3 rfl
        have n14 := cell_of P8.out.2.1 4 rfl
        have m10 := cell_of N8.out 0 rfl
        have m11 := cell_of N8.out 1 rfl
        have m12 := cell_of N8.out 2 rfl
        have m13 := cell_of N8.out 3 rfl
        have m14 := cell_of N8.out 4 rfl
        have KS := kNode_any _ _ n n _ _ W8 ⟨_, _, _, rfl, L8a.out, L8m.out, L8k.out⟩ ⟨_, _, _, rfl, HA.out.under P8.out.1, HM.out.under P8.out.1, HK.out.under P8.out.1⟩
        rw [tf_yes rfl] at KS
        unfold ndV at KS
        have KS := Lib.hid KS
        clear hb7 hb8 la7 lm7 lk7 P6 HB6 L6a L6m L6k N6 L8a L8m L8k N8 hl1 hl2 hln hcap
        go_upto_region 20 with fail
        rw [← hW8.out]
        clear hW8
        go_wp2_with fail
        refine KS.out.mono ?_
        clear KS
        rintro e W9 ⟨rfl, hb9⟩
        have P9 := Lib.hid (P8.out.all hb9)
        clear hb9 P8 n10 n11 n12 n13 n14 m10 m11 m12 m13 m14
        go_wp2_with fail
        go_meet
        exact P9
      · go_wp2_with fail
        go_meet
        exact P4
    case rest =>
      have s20 := cell_of hcut.out.2.2 0 rfl
      have s21 := cell_of hcut.out.2.2 1 rfl
      have KN := Lib.hid (packSchema_any s _ _ wc (HT.out.low hcut.out.1) (HX.out.low hcut.out.1) U3.out)
      go_wp2_with fail
      refine KN.out.mono ?_
      clear KN
      rintro e W4 ⟨vb, k, rfl, hb4, hform, hk4⟩
      have P4 := Lib.hid (hcut.out.all hb4)
      clear hb4 hcut s20 s21
      by_cases hk0 : k = 0
      · subst hk0
        obtain ⟨hok, how, hlen⟩ := hk4.out rfl
        obtain ⟨en, hen⟩ : ∃ en, Hid (en = eSc s) := ⟨_, Lib.hid rfl⟩
        obtain ⟨hne, f0⟩ := sc_facts s hok
        rw [← hen.out] at how hlen f0
        obtain ⟨Ab, cb, hvb⟩ := how.form
        subst hvb
        unfold limW at hlen
        obtain ⟨bb, hbs, _, _⟩ := how.bs
        have HKK := Lib.hid (f0 _ bb W4 hbs (by omega))
        clear hk4 hform hok hen hne how hbs f0
        go_wp2_with fail
        refine HKK.out.mono ?_
        clear HKK
        rintro e W5 ⟨v5, y5, rfl, hb5, ⟨vt5, vm5, rfl, lt5, lm5⟩, hy5⟩
        have e5 := hy5 rfl
        subst y5
        obtain ⟨A5t, c5t, rfl⟩ := lt5.form
        obtain ⟨A5m, c5m, rfl⟩ := lm5.form
        have P5 := Lib.hid (P4.out.all hb5)
        have L5t := Lib.hid lt5
        have L5m := Lib.hid lm5
        clear hb5 hy5 lt5 lm5 P4
        obtain ⟨W6, hW6⟩ : ∃ x, Hid (x = W5.alloc (.cells #[.slice A5t s.t.length c5t, .slice A5m s.m.length c5m] 31)) := ⟨_, Lib.hid rfl⟩
        obtain ⟨x5, hx5⟩ : ∃ x, Hid (x = W5.heap.size) := ⟨_, Lib.hid rfl⟩
        have hb6 : Below W5.heap.size W5 W6 := by rw [hW6.out]; exact (Below.refl _ _).alloc (Nat.le_refl _) _
        have P6 := Lib.hid (P5.out.all hb6)
        have L6t := Lib.hid (L5t.out.under hb6)
        have L6m := Lib.hid (L5m.out.under hb6)
        have N6 : Hid (Bk W6 x5 31 #[.slice A5t s.t.length c5t, .slice A5m s.m.length c5m]) := by show Bk _ _ _ _; rw [hW6.out, hx5.out]; exact Bk.new _ _ _
        have s20 := cell_of P6.out.2.2 0 rfl
        have s21 := cell_of P6.out.2.2 1 rfl
        have m20 := cell_of N6.out 0 rfl
        have m21 := cell_of N6.out 1 rfl
        have KS := kSchema_any _ _ s s _ _ W6 ⟨_, _, rfl, L6t.out, L6m.out⟩ ⟨_, _, rfl, HT.out.under P6.out.1, HX.out.under P6.out.1⟩
        rw [tf_yes rfl] at KS
        have KS := Lib.hid KS
        clear hb6 P5 L5t L5m L6t L6m N6
        go_upto_region 26 with fail
        rw [← hW6.out, ← hx5.out]
        clear hW6 hx5
        go_wp2_with fail
        refine KS.out.mono ?_
        clear KS
        rintro e W7 ⟨rfl, hb7⟩
        have B7 := (P6.out.all hb7).1
        go_wp2
        go_ret
        exact ⟨rfl, B7⟩
      · have hk : ((k : Int) != 0) = true := by rw [bne_iff_ne]; omega
        clear hk4 hk0
        go_wp2
        go_ret
        exact ⟨rfl, P4.out.1⟩
end Go.Proofs.YtjajcecenflejaaGreat
