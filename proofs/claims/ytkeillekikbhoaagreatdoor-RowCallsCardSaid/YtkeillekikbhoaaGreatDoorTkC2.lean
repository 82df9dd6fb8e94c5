/- TkAli, TkAlr, TkDep, TkKit, merged. -/
import Derived.Test.YtkeillekikbhoaaGreatDoorTkC1

/- how many tokens are alike: by the program. -/
namespace Go.Proofs.YtkeillekikbhoaaGreatDoor
open Go.RowKit

def Tok5 (w : World) (b off : Nat) (x : Tk) (A1 : Option Addr) (c1 : Nat) (A2 : Option Addr) (c2 : Nat) : Prop :=
  w.cell? ⟨b, off, none⟩ = some (.int .i64 x.k) ∧ w.cell? ⟨b, off + 1, none⟩ = some (.string x.t) ∧ w.cell? ⟨b, off + 1 + 1, none⟩ = some (.slice A1 x.a.length c1) ∧ w.cell? ⟨b, off + 1 + 1 + 1, none⟩ = some (.slice A2 x.m.length c2) ∧ w.cell? ⟨b, off + 1 + 1 + 1 + 1, none⟩ = some (.int .u8 x.c)
theorem Tok5.below {w w' : World} {b off : Nat} {x : Tk} {A1 A2 : Option Addr} {c1 c2 : Nat} (h : Tok5 w b off x A1 c1 A2 c2) (hb : Below w.heap.size w w') (hl : b < w.heap.size) : Tok5 w' b off x A1 c1 A2 c2 :=
  ⟨(hb.cell (p := ⟨b, off, none⟩) hl).trans h.1, (hb.cell (p := ⟨b, off + 1, none⟩) hl).trans h.2.1, (hb.cell (p := ⟨b, off + 1 + 1, none⟩) hl).trans h.2.2.1, (hb.cell (p := ⟨b, off + 1 + 1 + 1, none⟩) hl).trans h.2.2.2.1, (hb.cell (p := ⟨b, off + 1 + 1 + 1 + 1, none⟩) hl).trans h.2.2.2.2⟩
/-- a part of a row is read -/
theorem Tks.sub {w : World} {S : Nat → Prop} {A : Option Addr} {cap : Nat} {l : List Tk} (h : Tks w S (.slice A l.length cap) l) (lo hi : Nat) (h1 : lo ≤ hi) (h2 : hi ≤ l.length) :
    Tks w S (.slice (if cap = lo then A else A.map (fun x => x.add (lo * 5))) (hi - lo) (cap - lo)) ((l.drop lo).take (hi - lo)) := by
  obtain ⟨cs, hr, hc⟩ := h
  have hlen : ((l.drop lo).take (hi - lo)).length = hi - lo := by rw [List.length_take, List.length_drop]; omega
  refine ⟨(cs.drop (lo * 5)).take ((hi - lo) * 5), ?_, hc.part lo (hi - lo) (by omega)⟩
  rw [hlen]
  have e := hc.1
  obtain ⟨A', cap', hv, k0, k1, k2, k3⟩ := hr
  simp only [Value.slice.injEq, true_and] at hv
  obtain ⟨rfl, rfl⟩ := hv
  refine ⟨_, _, rfl, by rw [List.length_take, List.length_drop]; omega, by omega, by omega, ?_⟩
  by_cases h0 : hi - lo = 0
  · exact .inl h0
  · rcases k3 with k3 | ⟨b, off, rfl, hb, hcell⟩
    · omega
    · refine .inr ⟨b, off + lo * 5, ?_, hb, fun j u hu => ?_⟩
      · rw [if_neg (by omega)]; simp only [Option.map_some, Addr.add_lit]
      · have hj : j < (hi - lo) * 5 := by
          have := (List.getElem?_eq_some_iff.1 hu).1
          rw [List.length_take] at this; omega
        rw [List.getElem?_take_of_lt hj, List.getElem?_drop] at hu
        rw [Nat.add_assoc]; exact hcell _ _ hu
theorem Tks.tail {w : World} {S : Nat → Prop} {A : Option Addr} {cap : Nat} {l : List Tk} (h : Tks w S (.slice A l.length cap) l) (k : Nat) (hk : k ≤ l.length) :
    Tks w S (.slice (if cap = k then A else A.map (fun x => x.add (k * 5))) (l.length - k) (cap - k)) (l.drop k) := by
  have := h.sub k l.length hk (Nat.le_refl _)
  rwa [List.take_of_length_le (by rw [List.length_drop]; omega)] at this
theorem gT_drop (l : List Tk) (k i : Nat) : gT (l.drop k) i = gT l (k + i) := by unfold gT List.getD; rw [List.getElem?_drop]
theorem FineT.drop {l : List Tk} (h : FineT l) (k : Nat) : FineT (l.drop k) := fun x hx => h x (List.mem_of_mem_drop hx)
/-- counted from the end -/
def backD (l m : List Tk) (j : Nat) : Bool := oneB (gT l (l.length - 1 - j)) (gT m (m.length - 1 - j))
theorem behind_drop (l m : List Tk) (k : Nat) (hk : k = aheadN l m) : behindN l m = cnt (backD (l.drop k) (m.drop k)) (min (l.drop k).length (m.drop k).length) := by
  have h1 : k ≤ min l.length m.length := by rw [hk]; exact cnt_le _ _
  unfold behindN
  rw [← hk, List.length_drop, List.length_drop]
  have hc := cnt_le (backD (l.drop k) (m.drop k)) (min (l.length - k) (m.length - k))
  have he : ∀ j, j < min (l.length - k) (m.length - k) → backK l m j = backD (l.drop k) (m.drop k) j := fun j hj => by
    unfold backK backD
    rw [gT_drop, gT_drop, List.length_drop, List.length_drop, show k + (l.length - k - 1 - j) = l.length - 1 - j by omega, show k + (m.length - k - 1 - j) = m.length - 1 - j by omega]
  generalize hn : min (l.length - k) (m.length - k) = n at *
  have hx := cnt_spec (backD (l.drop k) (m.drop k)) n
  refine cnt_at hc (fun j hj => (he j (by omega)).trans (hx.1 j hj)) ?_
  rcases hx.2 with h | h
  · exact .inl h
  · by_cases e : cnt (backD (l.drop k) (m.drop k)) n = n
    · exact .inl e
    · exact .inr ((he _ (by omega)).trans h)
theorem backD_get {l m : List Tk} {j i i2 : Nat} (hi : l.length - 1 - j = i) (hi2 : m.length - 1 - j = i2) (h1 : i < l.length) (h2 : i2 < m.length) : backD l m j = oneB l[i] m[i2] := by
  unfold backD; rw [hi, hi2, gT_get l i h1, gT_get m i2 h2]

set_option maxRecDepth 100000 in
set_option maxHeartbeats 4000000 in
theorem alike_any (va vb : Value) (l m : List Tk) (S : Nat → Prop) (w : World) (hl : Tks w S va l) (hm : Tks w S vb m) (gl : Hid (FineT l)) (gm : Hid (FineT m)) :
    Calls Tryz.prog 18 #[va, vb] w fun e w' => e = .returned (.tuple #[.int .i64 (aheadN l m : Nat), .int .i64 (behindN l m : Nat)]) ∧ Below w.heap.size w w' := by
  obtain ⟨A, ca, rfl⟩ := hl.form
  obtain ⟨B, cb, rfl⟩ := hm.form
  have hml := hl.max
  have hmm := hm.max
  unfold maxLen at hml hmm
  obtain ⟨n, hn⟩ : ∃ n : Nat, Hid (n = min l.length m.length) := ⟨_, Lib.hid rfl⟩
  have hmin : (if m.length < l.length then (m.length : Int) else (l.length : Int)) = (n : Int) := by have := hn.out; split <;> omega
  go_enter Tryz.func18, Tryz.ntmps18
  go_wp2
  go_loopg [4] l.length (fun g s4 wr => ∃ k : Nat, k ≤ l.length ∧ k ≤ m.length ∧ g = l.length - k ∧ s4 = .int .i64 k ∧ Hid (∀ j, j < k → oneB (gT l j) (gT m j) = true) ∧ Below w.heap.size w wr)
  case atStart => exact ⟨0, Nat.zero_le _, Nat.zero_le _, by omega, rfl, fun j hj => by omega, Below.refl _ _⟩
  case round =>
    obtain ⟨k, hkl, hkm, hg, rfl, hall, hb⟩ := hrel
    have HG := Lib.hid hg
    clear hg
    have hsz := hb.size
    have hkn : k ≤ n := by have := hn.out; omega
    by_cases hlt : k < n
    · have hll : k < l.length := by have := hn.out; omega
      have hlm : k < m.length := by have := hn.out; omega
      have hA := Lib.hid (hl.below hb)
      have hB := Lib.hid (hm.below hb)
      have HLT := Lib.hid (fun w' (h : Below w.heap.size w w') => (hl.below h).tail k hkl)
      have HMT := Lib.hid (fun w' (h : Below w.heap.size w w') => (hm.below h).tail k hkm)
      clear hl hm
      obtain ⟨bl, offl, v2, v3, rfl, hblS, hcl, a0, a1, a2, a3, a4, rx, mx⟩ := (hA.out).at hll
      obtain ⟨A1, c1, rfl⟩ := rx.form
      obtain ⟨A2, c2, rfl⟩ := mx.form
      have hbl := hblS.2
      obtain ⟨bm, offm, u2, u3, rfl, hbmS, hcm, b0, b1, b2, b3, b4, ry, my⟩ := (hB.out).at hlm
      obtain ⟨A3, c3, rfl⟩ := ry.form
      obtain ⟨A4, c4, rfl⟩ := my.form
      have hbm := hbmS.2
      have HC : Hid (∀ w', Below wr.heap.size wr w' → Calls Tryz.prog 37 #[.agg #[.int .i64 l[k].k, .string l[k].t, .slice A1 l[k].a.length c1, .slice A2 l[k].m.length c2, .int .u8 l[k].c], .agg #[.int .i64 m[k].k, .string m[k].t, .slice A3 m[k].a.length c3, .slice A4 m[k].m.length c4, .int .u8 m[k].c]] w' fun e w'' => e = .returned (.bool (oneB l[k] m[k])) ∧ Below wr.heap.size wr w'') := fun w' h =>
        (same_any l[k] m[k] _ _ _ _ S w' (rx.keep (.below h)) (mx.keep (.below h)) (ry.keep (.below h)) (my.keep (.below h)) (gl.out.at hll) (gm.out.at hlm)).mono fun e w'' ⟨he, hb⟩ => ⟨he, h.trans (hb.mono h.size)⟩
      have C2 := Lib.hid ((Below.refl wr.heap.size wr).drew)
      have T1 : Hid (Tok5 wr bl (offl + k * 5) l[k] A1 c1 A2 c2) := ⟨a0, a1, a2, a3, a4⟩
      have T2 : Hid (Tok5 wr bm (offm + k * 5) m[k] A3 c3 A4 c4) := ⟨b0, b1, b2, b3, b4⟩
      clear rx ry mx my
      have hi0 : (0 : Int) ≤ (k : Int) := by omega
      have hi1 : (k : Int) < (l.length : Int) := by omega
      have hi2 : (k : Int) < (m.length : Int) := by omega
      have hi3 : (k : Int) < (n : Int) := by omega
      cases hz : oneB l[k] m[k]
      · rw [hz] at HC
        have hka : Hid (k = aheadN l m) := by
          show _ = _
          unfold aheadN
          rw [← hn.out]
          exact (cnt_at hkn hall.out (.inr (by rw [gT_get l k hll, gT_get m k hlm]; exact hz))).symm
        go_wp2
        go_region_held3 (fun w' => (w'.cell? ⟨bl, offl + k * 5, none⟩ = some (.int .i64 l[k].k) ∧ w'.cell? ⟨bl, offl + k * 5 + 1, none⟩ = some (.string l[k].t) ∧ w'.cell? ⟨bl, offl + k * 5 + 1 + 1, none⟩ = some (.slice A1 l[k].a.length c1) ∧ w'.cell? ⟨bl, offl + k * 5 + 1 + 1 + 1, none⟩ = some (.slice A2 l[k].m.length c2) ∧ w'.cell? ⟨bl, offl + k * 5 + 1 + 1 + 1 + 1, none⟩ = some (.int .u8 l[k].c)) ∧ (w'.cell? ⟨bm, offm + k * 5, none⟩ = some (.int .i64 m[k].k) ∧ w'.cell? ⟨bm, offm + k * 5 + 1, none⟩ = some (.string m[k].t) ∧ w'.cell? ⟨bm, offm + k * 5 + 1 + 1, none⟩ = some (.slice A3 m[k].a.length c3) ∧ w'.cell? ⟨bm, offm + k * 5 + 1 + 1 + 1, none⟩ = some (.slice A4 m[k].m.length c4) ∧ w'.cell? ⟨bm, offm + k * 5 + 1 + 1 + 1 + 1, none⟩ = some (.int .u8 m[k].c)))
          (first
            | exact ⟨⟨a0, a1, a2, a3, a4⟩, ⟨b0, b1, b2, b3, b4⟩⟩
            | exact ⟨T1.out.below q3 hbl, T2.out.below q3 hbm⟩)
          ((go_at_call 37; refine (HC.out _ C2.out).mono ?_; rintro e w3 ⟨rfl, q3⟩; have B3 := Lib.hid (hb.trans (q3.mono hsz))))
        go_wp2
        go_quiet (fail)
        have B9 := B3
        clear T1 T2 HC C2 a0 a1 a2 a3 a4 b0 b1 b2 b3 b4 hblS hbmS hbl hbm hz hlt hi3 hmin
        obtain ⟨l', hl'⟩ : ∃ l', Hid (l' = l.drop k) := ⟨_, Lib.hid rfl⟩
        obtain ⟨m', hm'⟩ : ∃ l', Hid (l' = m.drop k) := ⟨_, Lib.hid rfl⟩
        have el : l.length - k = l'.length := by rw [hl'.out, List.length_drop]
        have em : m.length - k = m'.length := by rw [hm'.out, List.length_drop]
        have gl' : Hid (FineT l') := by show FineT l'; rw [hl'.out]; exact gl.out.drop k
        have gm' : Hid (FineT m') := by show FineT m'; rw [hm'.out]; exact gm.out.drop k
        rw [el, em]
        rw [el, ← hl'.out] at HLT
        rw [em, ← hm'.out] at HMT
        rw [if_neg (by omega)] at HLT
        rw [if_neg (by omega)] at HMT
        simp only [Option.map_some, Addr.add_lit] at HLT HMT
        generalize (some ⟨bl, offl + k * 5, none⟩ : Option Addr) = A' at HLT ⊢
        generalize (some ⟨bm, offm + k * 5, none⟩ : Option Addr) = B' at HMT ⊢
        generalize ca - k = ca' at HLT ⊢
        generalize cb - k = cb' at HMT ⊢
        have hbe : Hid (behindN l m = cnt (backD l' m') (min l'.length m'.length)) := by show _ = _; rw [behind_drop l m k hka.out, ← hl'.out, ← hm'.out]
        have hml' : l'.length ≤ 2 ^ 63 - 1 := by have := el; omega
        have hmm' : m'.length ≤ 2 ^ 63 - 1 := by have := em; omega
        have HKA := hka
        clear hka hl' hm' el em
        obtain ⟨n2, hn2⟩ : ∃ n : Nat, Hid (n = min l'.length m'.length) := ⟨_, Lib.hid rfl⟩
        have hmin2 : (if m'.length < l'.length then (m'.length : Int) else (l'.length : Int)) = (n2 : Int) := by have := hn2.out; split <;> omega
        go_wp2
        go_loopg [5] n2 (fun g s5 wr => ∃ j : Nat, j ≤ n2 ∧ g = n2 - j ∧ s5 = .int .i64 j ∧ Hid (∀ i, i < j → backD l' m' i = true) ∧ Below w.heap.size w wr)
        case atStart => exact ⟨0, Nat.zero_le _, by omega, rfl, fun j hj => by omega, by first | exact blN B9.out _ | exact blN (blN B9.out _) _⟩
        case round =>
          clear hb hsz B9
          obtain ⟨j, hjn, hg, rfl, hall2, hb⟩ := hrel
          have HG2 := Lib.hid hg
          clear hg
          have hsz := hb.size
          by_cases hlt : j < n2
          · obtain ⟨i, hi⟩ : ∃ i, Hid (l'.length - 1 - j = i) := ⟨_, Lib.hid rfl⟩
            obtain ⟨i2, hi2⟩ : ∃ i, Hid (m'.length - 1 - j = i) := ⟨_, Lib.hid rfl⟩
            have hil : i < l'.length := by have := hi.out; have := hn2.out; omega
            have him : i2 < m'.length := by have := hi2.out; have := hn2.out; omega
            have he1 : (l'.length : Int) - 1 - (j : Int) = (i : Int) := by have := hi.out; have := hn2.out; omega
            have he2 : (m'.length : Int) - 1 - (j : Int) = (i2 : Int) := by have := hi2.out; have := hn2.out; omega
            have hbk := Lib.hid (backD_get hi.out hi2.out hil him)
            have hA2 := Lib.hid (HLT.out _ hb)
            have hB2 := Lib.hid (HMT.out _ hb)
            clear HLT HMT
            obtain ⟨bl, offl, v2, v3, rfl, hblS, hcl, a0, a1, a2, a3, a4, rx, mx⟩ := (hA2.out).at hil
            obtain ⟨A1, c1, rfl⟩ := rx.form
            obtain ⟨A2, c2, rfl⟩ := mx.form
            have hbl := hblS.2
            obtain ⟨bm, offm, u2, u3, rfl, hbmS, hcm, b0, b1, b2, b3, b4, ry, my⟩ := (hB2.out).at him
            obtain ⟨A3, c3, rfl⟩ := ry.form
            obtain ⟨A4, c4, rfl⟩ := my.form
            have hbm := hbmS.2
            have HC : Hid (∀ w', Below wr.heap.size wr w' → Calls Tryz.prog 37 #[.agg #[.int .i64 l'[i].k, .string l'[i].t, .slice A1 l'[i].a.length c1, .slice A2 l'[i].m.length c2, .int .u8 l'[i].c], .agg #[.int .i64 m'[i2].k, .string m'[i2].t, .slice A3 m'[i2].a.length c3, .slice A4 m'[i2].m.length c4, .int .u8 m'[i2].c]] w' fun e w'' => e = .returned (.bool (oneB l'[i] m'[i2])) ∧ Below wr.heap.size wr w'') := fun w' h =>
              (same_any l'[i] m'[i2] _ _ _ _ S w' (rx.keep (.below h)) (mx.keep (.below h)) (ry.keep (.below h)) (my.keep (.below h)) (gl'.out.at hil) (gm'.out.at him)).mono fun e w'' ⟨he, hb⟩ => ⟨he, h.trans (hb.mono h.size)⟩
            have C2 := Lib.hid ((Below.refl wr.heap.size wr).drew)
            have T1 : Hid (Tok5 wr bl (offl + i * 5) l'[i] A1 c1 A2 c2) := ⟨a0, a1, a2, a3, a4⟩
            have T2 : Hid (Tok5 wr bm (offm + i2 * 5) m'[i2] A3 c3 A4 c4) := ⟨b0, b1, b2, b3, b4⟩
            clear rx ry mx my
            have hj0 : (0 : Int) ≤ (j : Int) := by omega
            have hj1 : (j : Int) < (n2 : Int) := by omega
            have hj2 : (i : Int) < (l'.length : Int) := by omega
            have hj3 : (i2 : Int) < (m'.length : Int) := by omega
            have hj4 : (0 : Int) ≤ (i : Int) := by omega
            have hj5 : (0 : Int) ≤ (i2 : Int) := by omega
            have hw1 : IntKind.i64.wrap ((l'.length : Int) - 1) = (l'.length : Int) - 1 := IntWalk.i64_in _ (by omega)
            have hw2 : IntKind.i64.wrap ((m'.length : Int) - 1) = (m'.length : Int) - 1 := IntWalk.i64_in _ (by omega)
            have hw3 : IntKind.i64.wrap (i : Int) = (i : Int) := IntWalk.i64_in _ (by omega)
            have hw4 : IntKind.i64.wrap (i2 : Int) = (i2 : Int) := IntWalk.i64_in _ (by omega)
            cases hz : oneB l'[i] m'[i2]
            · rw [hz] at HC
              have hfin : Hid (behindN l m = j) := by
                show _ = _
                rw [hbe.out, ← hn2.out]
                exact cnt_at hjn hall2.out (.inr (hbk.out.trans hz))
              go_wp2
              go_region_held3 (fun w' => (w'.cell? ⟨bl, offl + i * 5, none⟩ = some (.int .i64 l'[i].k) ∧ w'.cell? ⟨bl, offl + i * 5 + 1, none⟩ = some (.string l'[i].t) ∧ w'.cell? ⟨bl, offl + i * 5 + 1 + 1, none⟩ = some (.slice A1 l'[i].a.length c1) ∧ w'.cell? ⟨bl, offl + i * 5 + 1 + 1 + 1, none⟩ = some (.slice A2 l'[i].m.length c2) ∧ w'.cell? ⟨bl, offl + i * 5 + 1 + 1 + 1 + 1, none⟩ = some (.int .u8 l'[i].c)) ∧ (w'.cell? ⟨bm, offm + i2 * 5, none⟩ = some (.int .i64 m'[i2].k) ∧ w'.cell? ⟨bm, offm + i2 * 5 + 1, none⟩ = some (.string m'[i2].t) ∧ w'.cell? ⟨bm, offm + i2 * 5 + 1 + 1, none⟩ = some (.slice A3 m'[i2].a.length c3) ∧ w'.cell? ⟨bm, offm + i2 * 5 + 1 + 1 + 1, none⟩ = some (.slice A4 m'[i2].m.length c4) ∧ w'.cell? ⟨bm, offm + i2 * 5 + 1 + 1 + 1 + 1, none⟩ = some (.int .u8 m'[i2].c)))
                (first
                  | exact ⟨⟨a0, a1, a2, a3, a4⟩, ⟨b0, b1, b2, b3, b4⟩⟩
                  | exact ⟨T1.out.below q3 hbl, T2.out.below q3 hbm⟩)
                ((go_at_call 37; refine (HC.out _ C2.out).mono ?_; rintro e w3 ⟨rfl, q3⟩; have B3 := Lib.hid (hb.trans (q3.mono hsz))))
              go_wp2
              go_ret2
              exact ⟨by rw [← HKA.out, hfin.out]; rfl, B3.out⟩
            · rw [hz] at HC
              have hall3 : Hid (∀ i, i < j + 1 → backD l' m' i = true) := by
                show ∀ i, _
                intro x hx
                by_cases e : x = j
                · subst e; exact hbk.out.trans hz
                · exact hall2.out x (by omega)
              go_wp2
              go_region_held3 (fun w' => (w'.cell? ⟨bl, offl + i * 5, none⟩ = some (.int .i64 l'[i].k) ∧ w'.cell? ⟨bl, offl + i * 5 + 1, none⟩ = some (.string l'[i].t) ∧ w'.cell? ⟨bl, offl + i * 5 + 1 + 1, none⟩ = some (.slice A1 l'[i].a.length c1) ∧ w'.cell? ⟨bl, offl + i * 5 + 1 + 1 + 1, none⟩ = some (.slice A2 l'[i].m.length c2) ∧ w'.cell? ⟨bl, offl + i * 5 + 1 + 1 + 1 + 1, none⟩ = some (.int .u8 l'[i].c)) ∧ (w'.cell? ⟨bm, offm + i2 * 5, none⟩ = some (.int .i64 m'[i2].k) ∧ w'.cell? ⟨bm, offm + i2 * 5 + 1, none⟩ = some (.string m'[i2].t) ∧ w'.cell? ⟨bm, offm + i2 * 5 + 1 + 1, none⟩ = some (.slice A3 m'[i2].a.length c3) ∧ w'.cell? ⟨bm, offm + i2 * 5 + 1 + 1 + 1, none⟩ = some (.slice A4 m'[i2].m.length c4) ∧ w'.cell? ⟨bm, offm + i2 * 5 + 1 + 1 + 1 + 1, none⟩ = some (.int .u8 m'[i2].c)))
                (first
                  | exact ⟨⟨a0, a1, a2, a3, a4⟩, ⟨b0, b1, b2, b3, b4⟩⟩
                  | exact ⟨T1.out.below q3 hbl, T2.out.below q3 hbm⟩)
                ((go_at_call 37; refine (HC.out _ C2.out).mono ?_; rintro e w3 ⟨rfl, q3⟩; have B3 := Lib.hid (hb.trans (q3.mono hsz))))
              go_wp2
              go_roundg (n2 - (j + 1))
              case measure => have := HG2.out; omega
              case rel => exact ⟨j + 1, by omega, rfl, by go_num, hall3, B3.out⟩
          · have hj1 : decide (j < n2) = false := by rw [decide_eq_false_iff_not]; exact hlt
            have hfin : Hid (behindN l m = j) := by
              show _ = _
              rw [hbe.out, ← hn2.out]
              exact cnt_at hjn hall2.out (.inl (by omega))
            go_wp2
            go_quiet (fail)
            go_wp2
            go_ret2
            exact ⟨by rw [← HKA.out, hfin.out]; rfl, blN hb _⟩
      · have hall' : Hid (∀ j, j < k + 1 → oneB (gT l j) (gT m j) = true) := by
          show ∀ j, _
          intro j hj
          by_cases e : j = k
          · subst e; rw [gT_get l j hll, gT_get m j hlm]; exact hz
          · exact hall.out j (by omega)
        rw [hz] at HC
        go_wp2
        go_region_held3 (fun w' => (w'.cell? ⟨bl, offl + k * 5, none⟩ = some (.int .i64 l[k].k) ∧ w'.cell? ⟨bl, offl + k * 5 + 1, none⟩ = some (.string l[k].t) ∧ w'.cell? ⟨bl, offl + k * 5 + 1 + 1, none⟩ = some (.slice A1 l[k].a.length c1) ∧ w'.cell? ⟨bl, offl + k * 5 + 1 + 1 + 1, none⟩ = some (.slice A2 l[k].m.length c2) ∧ w'.cell? ⟨bl, offl + k * 5 + 1 + 1 + 1 + 1, none⟩ = some (.int .u8 l[k].c)) ∧ (w'.cell? ⟨bm, offm + k * 5, none⟩ = some (.int .i64 m[k].k) ∧ w'.cell? ⟨bm, offm + k * 5 + 1, none⟩ = some (.string m[k].t) ∧ w'.cell? ⟨bm, offm + k * 5 + 1 + 1, none⟩ = some (.slice A3 m[k].a.length c3) ∧ w'.cell? ⟨bm, offm + k * 5 + 1 + 1 + 1, none⟩ = some (.slice A4 m[k].m.length c4) ∧ w'.cell? ⟨bm, offm + k * 5 + 1 + 1 + 1 + 1, none⟩ = some (.int .u8 m[k].c)))
          (first
            | exact ⟨⟨a0, a1, a2, a3, a4⟩, ⟨b0, b1, b2, b3, b4⟩⟩
            | exact ⟨T1.out.below q3 hbl, T2.out.below q3 hbm⟩)
          ((go_at_call 37; refine (HC.out _ C2.out).mono ?_; rintro e w3 ⟨rfl, q3⟩; have B3 := Lib.hid (hb.trans (q3.mono hsz))))
        go_wp2
        go_roundg (l.length - (k + 1))
        case measure => have := HG.out; omega
        case rel => exact ⟨k + 1, by omega, by omega, rfl, by go_num, hall', B3.out⟩
    · have hi3 : decide (k < n) = false := by rw [decide_eq_false_iff_not]; exact hlt
      have hka : Hid (k = aheadN l m) := by
        show _ = _
        unfold aheadN
        rw [← hn.out]
        exact (cnt_at hkn hall.out (.inl (by omega))).symm
      have HLT := Lib.hid (fun w' (h : Below w.heap.size w w') => (hl.below h).tail k hkl)
      have HMT := Lib.hid (fun w' (h : Below w.heap.size w w') => (hm.below h).tail k hkm)
      clear hl hm
      have hk1 : (0 : Int) ≤ (k : Int) := by omega
      have hk2 : (k : Int) ≤ (l.length : Int) := by omega
      have hk3 : (k : Int) ≤ (m.length : Int) := by omega
      go_wp2
      go_quiet (fail)
      go_wp2
      go_quiet (fail)
      have B9 := Lib.hid hb
      clear hlt hi3 hmin
      obtain ⟨l', hl'⟩ : ∃ l', Hid (l' = l.drop k) := ⟨_, Lib.hid rfl⟩
      obtain ⟨m', hm'⟩ : ∃ l', Hid (l' = m.drop k) := ⟨_, Lib.hid rfl⟩
      have el : l.length - k = l'.length := by rw [hl'.out, List.length_drop]
      have em : m.length - k = m'.length := by rw [hm'.out, List.length_drop]
      have gl' : Hid (FineT l') := by show FineT l'; rw [hl'.out]; exact gl.out.drop k
      have gm' : Hid (FineT m') := by show FineT m'; rw [hm'.out]; exact gm.out.drop k
      rw [el, em]
      rw [el, ← hl'.out] at HLT
      rw [em, ← hm'.out] at HMT
      generalize (if ca = k then A else Option.map (fun x : Addr => x.add (k * 5)) A) = A' at HLT ⊢
      generalize (if cb = k then B else Option.map (fun x : Addr => x.add (k * 5)) B) = B' at HMT ⊢
      generalize ca - k = ca' at HLT ⊢
      generalize cb - k = cb' at HMT ⊢
      have hbe : Hid (behindN l m = cnt (backD l' m') (min l'.length m'.length)) := by show _ = _; rw [behind_drop l m k hka.out, ← hl'.out, ← hm'.out]
      have hml' : l'.length ≤ 2 ^ 63 - 1 := by have := el; omega
      have hmm' : m'.length ≤ 2 ^ 63 - 1 := by have := em; omega
      have HKA := hka
      clear hka hl' hm' el em
      obtain ⟨n2, hn2⟩ : ∃ n : Nat, Hid (n = min l'.length m'.length) := ⟨_, Lib.hid rfl⟩
      have hmin2 : (if m'.length < l'.length then (m'.length : Int) else (l'.length : Int)) = (n2 : Int) := by have := hn2.out; split <;> omega
      go_wp2
      go_loopg [5] n2 (fun g s5 wr => ∃ j : Nat, j ≤ n2 ∧ g = n2 - j ∧ s5 = .int .i64 j ∧ Hid (∀ i, i < j → backD l' m' i = true) ∧ Below w.heap.size w wr)
      case atStart => exact ⟨0, Nat.zero_le _, by omega, rfl, fun j hj => by omega, by first | exact blN B9.out _ | exact blN (blN B9.out _) _⟩
      case round =>
        clear hb hsz B9
        obtain ⟨j, hjn, hg, rfl, hall2, hb⟩ := hrel
        have HG2 := Lib.hid hg
        clear hg
        have hsz := hb.size
        by_cases hlt : j < n2
        · obtain ⟨i, hi⟩ : ∃ i, Hid (l'.length - 1 - j = i) := ⟨_, Lib.hid rfl⟩
          obtain ⟨i2, hi2⟩ : ∃ i, Hid (m'.length - 1 - j = i) := ⟨_, Lib.hid rfl⟩
          have hil : i < l'.length := by have := hi.out; have := hn2.out; omega
          have him : i2 < m'.length := by have := hi2.out; have := hn2.out; omega
          have he1 : (l'.length : Int) - 1 - (j : Int) = (i : Int) := by have := hi.out; have := hn2.out; omega
          have he2 : (m'.length : Int) - 1 - (j : Int) = (i2 : Int) := by have := hi2.out; have := hn2.out; omega
          have hbk := Lib.hid (backD_get hi.out hi2.out hil him)
          have hA2 := Lib.hid (HLT.out _ hb)
          have hB2 := Lib.hid (HMT.out _ hb)
          clear HLT HMT
          obtain ⟨bl, offl, v2, v3, rfl, hblS, hcl, a0, a1, a2, a3, a4, rx, mx⟩ := (hA2.out).at hil
          obtain ⟨A1, c1, rfl⟩ := rx.form
          obtain ⟨A2, c2, rfl⟩ := mx.form
          have hbl := hblS.2
          obtain ⟨bm, offm, u2, u3, rfl, hbmS, hcm, b0, b1, b2, b3, b4, ry, my⟩ := (hB2.out).at him
          obtain ⟨A3, c3, rfl⟩ := ry.form
          obtain ⟨A4, c4, rfl⟩ := my.form
          have hbm := hbmS.2
          have HC : Hid (∀ w', Below wr.heap.size wr w' → Calls Tryz.prog 37 #[.agg #[.int .i64 l'[i].k, .string l'[i].t, .slice A1 l'[i].a.length c1, .slice A2 l'[i].m.length c2, .int .u8 l'[i].c], .agg #[.int .i64 m'[i2].k, .string m'[i2].t, .slice A3 m'[i2].a.length c3, .slice A4 m'[i2].m.length c4, .int .u8 m'[i2].c]] w' fun e w'' => e = .returned (.bool (oneB l'[i] m'[i2])) ∧ Below wr.heap.size wr w'') := fun w' h =>
            (same_any l'[i] m'[i2] _ _ _ _ S w' (rx.keep (.below h)) (mx.keep (.below h)) (ry.keep (.below h)) (my.keep (.below h)) (gl'.out.at hil) (gm'.out.at him)).mono fun e w'' ⟨he, hb⟩ => ⟨he, h.trans (hb.mono h.size)⟩
          have C2 := Lib.hid ((Below.refl wr.heap.size wr).drew)
          have T1 : Hid (Tok5 wr bl (offl + i * 5) l'[i] A1 c1 A2 c2) := ⟨a0, a1, a2, a3, a4⟩
          have T2 : Hid (Tok5 wr bm (offm + i2 * 5) m'[i2] A3 c3 A4 c4) := ⟨b0, b1, b2, b3, b4⟩
          clear rx ry mx my
          have hj0 : (0 : Int) ≤ (j : Int) := by omega
          have hj1 : (j : Int) < (n2 : Int) := by omega
          have hj2 : (i : Int) < (l'.length : Int) := by omega
          have hj3 : (i2 : Int) < (m'.length : Int) := by omega
          have hj4 : (0 : Int) ≤ (i : Int) := by omega
          have hj5 : (0 : Int) ≤ (i2 : Int) := by omega
          have hw1 : IntKind.i64.wrap ((l'.length : Int) - 1) = (l'.length : Int) - 1 := IntWalk.i64_in _ (by omega)
          have hw2 : IntKind.i64.wrap ((m'.length : Int) - 1) = (m'.length : Int) - 1 := IntWalk.i64_in _ (by omega)
          have hw3 : IntKind.i64.wrap (i : Int) = (i : Int) := IntWalk.i64_in _ (by omega)
          have hw4 : IntKind.i64.wrap (i2 : Int) = (i2 : Int) := IntWalk.i64_in _ (by omega)
          cases hz : oneB l'[i] m'[i2]
          · rw [hz] at HC
            have hfin : Hid (behindN l m = j) := by
              show _ = _
              rw [hbe.out, ← hn2.out]
              exact cnt_at hjn hall2.out (.inr (hbk.out.trans hz))
            go_wp2
            go_region_held3 (fun w' => (w'.cell? ⟨bl, offl + i * 5, none⟩ = some (.int .i64 l'[i].k) ∧ w'.cell? ⟨bl, offl + i * 5 + 1, none⟩ = some (.string l'[i].t) ∧ w'.cell? ⟨bl, offl + i * 5 + 1 + 1, none⟩ = some (.slice A1 l'[i].a.length c1) ∧ w'.cell? ⟨bl, offl + i * 5 + 1 + 1 + 1, none⟩ = some (.slice A2 l'[i].m.length c2) ∧ w'.cell? ⟨bl, offl + i * 5 + 1 + 1 + 1 + 1, none⟩ = some (.int .u8 l'[i].c)) ∧ (w'.cell? ⟨bm, offm + i2 * 5, none⟩ = some (.int .i64 m'[i2].k) ∧ w'.cell? ⟨bm, offm + i2 * 5 + 1, none⟩ = some (.string m'[i2].t) ∧ w'.cell? ⟨bm, offm + i2 * 5 + 1 + 1, none⟩ = some (.slice A3 m'[i2].a.length c3) ∧ w'.cell? ⟨bm, offm + i2 * 5 + 1 + 1 + 1, none⟩ = some (.slice A4 m'[i2].m.length c4) ∧ w'.cell? ⟨bm, offm + i2 * 5 + 1 + 1 + 1 + 1, none⟩ = some (.int .u8 m'[i2].c)))
              (first
                | exact ⟨⟨a0, a1, a2, a3, a4⟩, ⟨b0, b1, b2, b3, b4⟩⟩
                | exact ⟨T1.out.below q3 hbl, T2.out.below q3 hbm⟩)
              ((go_at_call 37; refine (HC.out _ C2.out).mono ?_; rintro e w3 ⟨rfl, q3⟩; have B3 := Lib.hid (hb.trans (q3.mono hsz))))
            go_wp2
            go_ret2
            exact ⟨by rw [← HKA.out, hfin.out]; rfl, B3.out⟩
          · rw [hz] at HC
            have hall3 : Hid (∀ i, i < j + 1 → backD l' m' i = true) := by
              show ∀ i, _
              intro x hx
              by_cases e : x = j
              · subst e; exact hbk.out.trans hz
              · exact hall2.out x (by omega)
            go_wp2
            go_region_held3 (fun w' => (w'.cell? ⟨bl, offl + i * 5, none⟩ = some (.int .i64 l'[i].k) ∧ w'.cell? ⟨bl, offl + i * 5 + 1, none⟩ = some (.string l'[i].t) ∧ w'.cell? ⟨bl, offl + i * 5 + 1 + 1, none⟩ = some (.slice A1 l'[i].a.length c1) ∧ w'.cell? ⟨bl, offl + i * 5 + 1 + 1 + 1, none⟩ = some (.slice A2 l'[i].m.length c2) ∧ w'.cell? ⟨bl, offl + i * 5 + 1 + 1 + 1 + 1, none⟩ = some (.int .u8 l'[i].c)) ∧ (w'.cell? ⟨bm, offm + i2 * 5, none⟩ = some (.int .i64 m'[i2].k) ∧ w'.cell? ⟨bm, offm + i2 * 5 + 1, none⟩ = some (.string m'[i2].t) ∧ w'.cell? ⟨bm, offm + i2 * 5 + 1 + 1, none⟩ = some (.slice A3 m'[i2].a.length c3) ∧ w'.cell? ⟨bm, offm + i2 * 5 + 1 + 1 + 1, none⟩ = some (.slice A4 m'[i2].m.length c4) ∧ w'.cell? ⟨bm, offm + i2 * 5 + 1 + 1 + 1 + 1, none⟩ = some (.int .u8 m'[i2].c)))
              (first
                | exact ⟨⟨a0, a1, a2, a3, a4⟩, ⟨b0, b1, b2, b3, b4⟩⟩
                | exact ⟨T1.out.below q3 hbl, T2.out.below q3 hbm⟩)
              ((go_at_call 37; refine (HC.out _ C2.out).mono ?_; rintro e w3 ⟨rfl, q3⟩; have B3 := Lib.hid (hb.trans (q3.mono hsz))))
            go_wp2
            go_roundg (n2 - (j + 1))
            case measure => have := HG2.out; omega
            case rel => exact ⟨j + 1, by omega, rfl, by go_num, hall3, B3.out⟩
        · have hj1 : decide (j < n2) = false := by rw [decide_eq_false_iff_not]; exact hlt
          have hfin : Hid (behindN l m = j) := by
            show _ = _
            rw [hbe.out, ← hn2.out]
            exact cnt_at hjn hall2.out (.inl (by omega))
          go_wp2
          go_quiet (fail)
          go_wp2
          go_ret2
          exact ⟨by rw [← HKA.out, hfin.out]; rfl, blN hb _⟩
end Go.Proofs.YtkeillekikbhoaaGreatDoor

/- how many tokens are alike: by the reference. -/
namespace Go.Proofs.YtkeillekikbhoaaGreatDoor
open Go.RowKit
theorem backK_get {l m : List Tk} {j i i2 : Nat} (hi : l.length - 1 - j = i) (hi2 : m.length - 1 - j = i2) (h1 : i < l.length) (h2 : i2 < m.length) : backK l m j = oneB l[i] m[i2] := by
  unfold backK; rw [hi, hi2, gT_get l i h1, gT_get m i2 h2]

set_option maxRecDepth 100000 in
set_option maxHeartbeats 8000000 in
theorem refAlike_any (va vb : Value) (l m : List Tk) (S : Nat → Prop) (w : World) (hl : Tks w S va l) (hm : Tks w S vb m) :
    Calls Tryz.prog 19 #[va, vb] w fun e w' => e = .returned (.tuple #[.int .i64 (aheadN l m : Nat), .int .i64 (behindN l m : Nat)]) ∧ Below w.heap.size w w' := by
  obtain ⟨A, ca, rfl⟩ := hl.form
  obtain ⟨B, cb, rfl⟩ := hm.form
  have hml := hl.max
  have hmm := hm.max
  unfold maxLen at hml hmm
  go_enter Tryz.func19, Tryz.ntmps19
  go_wp2
  go_loopg [6] l.length (fun g s4 wr => ∃ k : Nat, k ≤ l.length ∧ k ≤ m.length ∧ g = l.length - k ∧ s4 = .int .i64 k ∧ Hid (∀ j, j < k → oneB (gT l j) (gT m j) = true) ∧ Below w.heap.size w wr)
  case atStart => exact ⟨0, Nat.zero_le _, Nat.zero_le _, by omega, rfl, fun j hj => by omega, Below.refl _ _⟩
  case round =>
    obtain ⟨k, hkl, hkm, hg, rfl, hall, hb⟩ := hrel
    have HG := Lib.hid hg
    clear hg
    have hsz := hb.size
    have HLT := Lib.hid (fun w' (h : Below w.heap.size w w') => hl.below h)
    have HMT := Lib.hid (fun w' (h : Below w.heap.size w w') => hm.below h)
    have hi0 : (0 : Int) ≤ (k : Int) := by omega
    by_cases hlt : k < min l.length m.length
    · have hll : k < l.length := by omega
      have hlm : k < m.length := by omega
      clear hlt
      have hA := Lib.hid (hl.below hb)
      have hB := Lib.hid (hm.below hb)
      obtain ⟨bl, offl, v2, v3, rfl, hblS, hcl, a0, a1, a2, a3, a4, rx, mx⟩ := (hA.out).at hll
      obtain ⟨A1, c1, rfl⟩ := rx.form
      obtain ⟨A2, c2, rfl⟩ := mx.form
      have hbl := hblS.2
      obtain ⟨bm, offm, u2, u3, rfl, hbmS, hcm, b0, b1, b2, b3, b4, ry, my⟩ := (hB.out).at hlm
      obtain ⟨A3, c3, rfl⟩ := ry.form
      obtain ⟨A4, c4, rfl⟩ := my.form
      have hbm := hbmS.2
      have HC : Hid (∀ w', Below wr.heap.size wr w' → Calls Tryz.prog 38 #[.agg #[.int .i64 l[k].k, .string l[k].t, .slice A1 l[k].a.length c1, .slice A2 l[k].m.length c2, .int .u8 l[k].c], .agg #[.int .i64 m[k].k, .string m[k].t, .slice A3 m[k].a.length c3, .slice A4 m[k].m.length c4, .int .u8 m[k].c]] w' fun e w'' => e = .returned (.bool (oneB l[k] m[k])) ∧ Below wr.heap.size wr w'') := fun w' h =>
        (refOne_any l[k] m[k] _ _ _ _ S w' (rx.keep (.below h)) (mx.keep (.below h)) (ry.keep (.below h)) (my.keep (.below h))).mono fun e w'' ⟨he, hb⟩ => ⟨he, h.trans (hb.mono h.size)⟩
      have C2 := Lib.hid ((Below.refl wr.heap.size wr).drew)
      have T1 : Hid (Tok5 wr bl (offl + k * 5) l[k] A1 c1 A2 c2) := ⟨a0, a1, a2, a3, a4⟩
      have T2 : Hid (Tok5 wr bm (offm + k * 5) m[k] A3 c3 A4 c4) := ⟨b0, b1, b2, b3, b4⟩
      clear rx ry mx my
      have hi1 : (k : Int) < (l.length : Int) := by omega
      have hi2 : (k : Int) < (m.length : Int) := by omega
      cases hz : oneB l[k] m[k]
      · rw [hz] at HC
        have hka : Hid (k = aheadN l m) := by
          show _ = _
          exact (cnt_at (by omega) hall.out (.inr (by rw [gT_get l k hll, gT_get m k hlm]; exact hz))).symm
        go_wp2
        go_region_held3 (fun w' => (w'.cell? ⟨bl, offl + k * 5, none⟩ = some (.int .i64 l[k].k) ∧ w'.cell? ⟨bl, offl + k * 5 + 1, none⟩ = some (.string l[k].t) ∧ w'.cell? ⟨bl, offl + k * 5 + 1 + 1, none⟩ = some (.slice A1 l[k].a.length c1) ∧ w'.cell? ⟨bl, offl + k * 5 + 1 + 1 + 1, none⟩ = some (.slice A2 l[k].m.length c2) ∧ w'.cell? ⟨bl, offl + k * 5 + 1 + 1 + 1 + 1, none⟩ = some (.int .u8 l[k].c)) ∧ (w'.cell? ⟨bm, offm + k * 5, none⟩ = some (.int .i64 m[k].k) ∧ w'.cell? ⟨bm, offm + k * 5 + 1, none⟩ = some (.string m[k].t) ∧ w'.cell? ⟨bm, offm + k * 5 + 1 + 1, none⟩ = some (.slice A3 m[k].a.length c3) ∧ w'.cell? ⟨bm, offm + k * 5 + 1 + 1 + 1, none⟩ = some (.slice A4 m[k].m.length c4) ∧ w'.cell? ⟨bm, offm + k * 5 + 1 + 1 + 1 + 1, none⟩ = some (.int .u8 m[k].c)))
          (first
            | exact ⟨⟨a0, a1, a2, a3, a4⟩, ⟨b0, b1, b2, b3, b4⟩⟩
            | exact ⟨T1.out.below q3 hbl, T2.out.below q3 hbm⟩)
          ((go_at_call 38; refine (HC.out _ C2.out).mono ?_; rintro e w3 ⟨rfl, q3⟩; have B3 := Lib.hid (hb.trans (q3.mono hsz))))
        go_wp2
        have B9 := B3
        clear T1 T2 HC C2 a0 a1 a2 a3 a4 b0 b1 b2 b3 b4 hblS hbmS hbl hbm hz hA hB hl hm
        generalize (some (⟨bl, offl, none⟩ : Addr)) = A' at HLT ⊢
        generalize (some (⟨bm, offm, none⟩ : Addr)) = B' at HMT ⊢
        have HKA := hka
        have hbe : Hid (behindN l m = cnt (backK l m) (min (l.length - k) (m.length - k))) := by show _ = _; unfold behindN; rw [← HKA.out]
        clear hka
        have hkl2 : (k : Int) ≤ (l.length : Int) := by omega
        have hkm2 : (k : Int) ≤ (m.length : Int) := by omega
        have hw5 : IntKind.i64.wrap ((l.length : Int) - (k : Int)) = (l.length : Int) - (k : Int) := IntWalk.i64_in _ (by omega)
        have hw6 : IntKind.i64.wrap ((m.length : Int) - (k : Int)) = (m.length : Int) - (k : Int) := IntWalk.i64_in _ (by omega)
        go_loopg [7] l.length (fun g s5 wr => ∃ j : Nat, j ≤ min (l.length - k) (m.length - k) ∧ g = l.length - j ∧ s5 = .int .i64 j ∧ Hid (∀ i, i < j → backK l m i = true) ∧ Below w.heap.size w wr)
        case atStart => exact ⟨0, Nat.zero_le _, by omega, rfl, fun j hj => by omega, by first | exact B9.out | exact blN B9.out _ | exact blN (blN B9.out _) _⟩
        case round =>
          clear hb hsz B9
          obtain ⟨j, hjn, hg, rfl, hall2, hb⟩ := hrel
          have HG2 := Lib.hid hg
          clear hg
          have hsz := hb.size
          have hj0 : (0 : Int) ≤ (j : Int) := by omega
          by_cases hlt : j < min (l.length - k) (m.length - k)
          · obtain ⟨i, hi⟩ : ∃ i, Hid (l.length - 1 - j = i) := ⟨_, Lib.hid rfl⟩
            obtain ⟨i2, hi2⟩ : ∃ i, Hid (m.length - 1 - j = i) := ⟨_, Lib.hid rfl⟩
            have hil : i < l.length := by have := hi.out; omega
            have him : i2 < m.length := by have := hi2.out; omega
            have he1 : (l.length : Int) - 1 - (j : Int) = (i : Int) := by have := hi.out; omega
            have he2 : (m.length : Int) - 1 - (j : Int) = (i2 : Int) := by have := hi2.out; omega
            have hbk := Lib.hid (backK_get hi.out hi2.out hil him)
            have hA2 := Lib.hid (HLT.out _ hb)
            have hB2 := Lib.hid (HMT.out _ hb)
            have hj1 : (j : Int) < (l.length : Int) - (k : Int) := by omega
            have hj6 : (j : Int) < (m.length : Int) - (k : Int) := by omega
            clear hlt HLT HMT
            obtain ⟨bl, offl, v2, v3, rfl, hblS, hcl, a0, a1, a2, a3, a4, rx, mx⟩ := (hA2.out).at hil
            obtain ⟨A1, c1, rfl⟩ := rx.form
            obtain ⟨A2, c2, rfl⟩ := mx.form
            have hbl := hblS.2
            obtain ⟨bm, offm, u2, u3, rfl, hbmS, hcm, b0, b1, b2, b3, b4, ry, my⟩ := (hB2.out).at him
            obtain ⟨A3, c3, rfl⟩ := ry.form
            obtain ⟨A4, c4, rfl⟩ := my.form
            have hbm := hbmS.2
            have HC : Hid (∀ w', Below wr.heap.size wr w' → Calls Tryz.prog 38 #[.agg #[.int .i64 l[i].k, .string l[i].t, .slice A1 l[i].a.length c1, .slice A2 l[i].m.length c2, .int .u8 l[i].c], .agg #[.int .i64 m[i2].k, .string m[i2].t, .slice A3 m[i2].a.length c3, .slice A4 m[i2].m.length c4, .int .u8 m[i2].c]] w' fun e w'' => e = .returned (.bool (oneB l[i] m[i2])) ∧ Below wr.heap.size wr w'') := fun w' h =>
              (refOne_any l[i] m[i2] _ _ _ _ S w' (rx.keep (.below h)) (mx.keep (.below h)) (ry.keep (.below h)) (my.keep (.below h))).mono fun e w'' ⟨he, hb⟩ => ⟨he, h.trans (hb.mono h.size)⟩
            have C2 := Lib.hid ((Below.refl wr.heap.size wr).drew)
            have T1 : Hid (Tok5 wr bl (offl + i * 5) l[i] A1 c1 A2 c2) := ⟨a0, a1, a2, a3, a4⟩
            have T2 : Hid (Tok5 wr bm (offm + i2 * 5) m[i2] A3 c3 A4 c4) := ⟨b0, b1, b2, b3, b4⟩
            clear rx ry mx my
            have hj2 : (i : Int) < (l.length : Int) := by omega
            have hj3 : (i2 : Int) < (m.length : Int) := by omega
            have hj4 : (0 : Int) ≤ (i : Int) := by omega
            have hj5 : (0 : Int) ≤ (i2 : Int) := by omega
            have hw1 : IntKind.i64.wrap ((l.length : Int) - 1) = (l.length : Int) - 1 := IntWalk.i64_in _ (by omega)
            have hw2 : IntKind.i64.wrap ((m.length : Int) - 1) = (m.length : Int) - 1 := IntWalk.i64_in _ (by omega)
            have hw3 : IntKind.i64.wrap (i : Int) = (i : Int) := IntWalk.i64_in _ (by omega)
            have hw4 : IntKind.i64.wrap (i2 : Int) = (i2 : Int) := IntWalk.i64_in _ (by omega)
            cases hz : oneB l[i] m[i2]
            · rw [hz] at HC
              have hfin : Hid (behindN l m = j) := by
                show _ = _
                rw [hbe.out]
                exact cnt_at hjn hall2.out (.inr (hbk.out.trans hz))
              go_wp2
              go_region_held3 (fun w' => (w'.cell? ⟨bl, offl + i * 5, none⟩ = some (.int .i64 l[i].k) ∧ w'.cell? ⟨bl, offl + i * 5 + 1, none⟩ = some (.string l[i].t) ∧ w'.cell? ⟨bl, offl + i * 5 + 1 + 1, none⟩ = some (.slice A1 l[i].a.length c1) ∧ w'.cell? ⟨bl, offl + i * 5 + 1 + 1 + 1, none⟩ = some (.slice A2 l[i].m.length c2) ∧ w'.cell? ⟨bl, offl + i * 5 + 1 + 1 + 1 + 1, none⟩ = some (.int .u8 l[i].c)) ∧ (w'.cell? ⟨bm, offm + i2 * 5, none⟩ = some (.int .i64 m[i2].k) ∧ w'.cell? ⟨bm, offm + i2 * 5 + 1, none⟩ = some (.string m[i2].t) ∧ w'.cell? ⟨bm, offm + i2 * 5 + 1 + 1, none⟩ = some (.slice A3 m[i2].a.length c3) ∧ w'.cell? ⟨bm, offm + i2 * 5 + 1 + 1 + 1, none⟩ = some (.slice A4 m[i2].m.length c4) ∧ w'.cell? ⟨bm, offm + i2 * 5 + 1 + 1 + 1 + 1, none⟩ = some (.int .u8 m[i2].c)))
                (first
                  | exact ⟨⟨a0, a1, a2, a3, a4⟩, ⟨b0, b1, b2, b3, b4⟩⟩
                  | exact ⟨T1.out.below q3 hbl, T2.out.below q3 hbm⟩)
                ((go_at_call 38; refine (HC.out _ C2.out).mono ?_; rintro e w3 ⟨rfl, q3⟩; have B3 := Lib.hid (hb.trans (q3.mono hsz))))
              go_wp2
              go_ret2
              exact ⟨by rw [← HKA.out, hfin.out]; rfl, B3.out⟩
            · rw [hz] at HC
              have hall3 : Hid (∀ i, i < j + 1 → backK l m i = true) := by
                show ∀ i, _
                intro x hx
                by_cases e : x = j
                · subst e; exact hbk.out.trans hz
                · exact hall2.out x (by omega)
              have hjn2 : j + 1 ≤ min (l.length - k) (m.length - k) := by omega
              go_wp2
              go_region_held3 (fun w' => (w'.cell? ⟨bl, offl + i * 5, none⟩ = some (.int .i64 l[i].k) ∧ w'.cell? ⟨bl, offl + i * 5 + 1, none⟩ = some (.string l[i].t) ∧ w'.cell? ⟨bl, offl + i * 5 + 1 + 1, none⟩ = some (.slice A1 l[i].a.length c1) ∧ w'.cell? ⟨bl, offl + i * 5 + 1 + 1 + 1, none⟩ = some (.slice A2 l[i].m.length c2) ∧ w'.cell? ⟨bl, offl + i * 5 + 1 + 1 + 1 + 1, none⟩ = some (.int .u8 l[i].c)) ∧ (w'.cell? ⟨bm, offm + i2 * 5, none⟩ = some (.int .i64 m[i2].k) ∧ w'.cell? ⟨bm, offm + i2 * 5 + 1, none⟩ = some (.string m[i2].t) ∧ w'.cell? ⟨bm, offm + i2 * 5 + 1 + 1, none⟩ = some (.slice A3 m[i2].a.length c3) ∧ w'.cell? ⟨bm, offm + i2 * 5 + 1 + 1 + 1, none⟩ = some (.slice A4 m[i2].m.length c4) ∧ w'.cell? ⟨bm, offm + i2 * 5 + 1 + 1 + 1 + 1, none⟩ = some (.int .u8 m[i2].c)))
                (first
                  | exact ⟨⟨a0, a1, a2, a3, a4⟩, ⟨b0, b1, b2, b3, b4⟩⟩
                  | exact ⟨T1.out.below q3 hbl, T2.out.below q3 hbm⟩)
                ((go_at_call 38; refine (HC.out _ C2.out).mono ?_; rintro e w3 ⟨rfl, q3⟩; have B3 := Lib.hid (hb.trans (q3.mono hsz))))
              go_wp2
              go_roundg (l.length - (j + 1))
              case measure => have := HG2.out; omega
              case rel => exact ⟨j + 1, hjn2, rfl, by go_num, hall3, B3.out⟩
          · have hfin : Hid (behindN l m = j) := by
              show _ = _
              rw [hbe.out]
              exact cnt_at hjn hall2.out (.inl (by omega))
            by_cases hq2 : (j : Int) < (l.length : Int) - (k : Int)
            all_goals
              first
                | (have hd3 : decide ((j : Int) < (l.length : Int) - (k : Int)) = false := by rw [decide_eq_false_iff_not]; exact hq2)
                | (have hd4 : decide ((j : Int) < (m.length : Int) - (k : Int)) = false := by rw [decide_eq_false_iff_not]; omega)
              go_wp2
              go_quiet (fail)
              go_wp2
              go_ret2
              exact ⟨by rw [← HKA.out, hfin.out]; rfl, blN hb _⟩
      · have hall' : Hid (∀ j, j < k + 1 → oneB (gT l j) (gT m j) = true) := by
          show ∀ j, _
          intro j hj
          by_cases e : j = k
          · subst e; rw [gT_get l j hll, gT_get m j hlm]; exact hz
          · exact hall.out j (by omega)
        rw [hz] at HC
        go_wp2
        go_region_held3 (fun w' => (w'.cell? ⟨bl, offl + k * 5, none⟩ = some (.int .i64 l[k].k) ∧ w'.cell? ⟨bl, offl + k * 5 + 1, none⟩ = some (.string l[k].t) ∧ w'.cell? ⟨bl, offl + k * 5 + 1 + 1, none⟩ = some (.slice A1 l[k].a.length c1) ∧ w'.cell? ⟨bl, offl + k * 5 + 1 + 1 + 1, none⟩ = some (.slice A2 l[k].m.length c2) ∧ w'.cell? ⟨bl, offl + k * 5 + 1 + 1 + 1 + 1, none⟩ = some (.int .u8 l[k].c)) ∧ (w'.cell? ⟨bm, offm + k * 5, none⟩ = some (.int .i64 m[k].k) ∧ w'.cell? ⟨bm, offm + k * 5 + 1, none⟩ = some (.string m[k].t) ∧ w'.cell? ⟨bm, offm + k * 5 + 1 + 1, none⟩ = some (.slice A3 m[k].a.length c3) ∧ w'.cell? ⟨bm, offm + k * 5 + 1 + 1 + 1, none⟩ = some (.slice A4 m[k].m.length c4) ∧ w'.cell? ⟨bm, offm + k * 5 + 1 + 1 + 1 + 1, none⟩ = some (.int .u8 m[k].c)))
          (first
            | exact ⟨⟨a0, a1, a2, a3, a4⟩, ⟨b0, b1, b2, b3, b4⟩⟩
            | exact ⟨T1.out.below q3 hbl, T2.out.below q3 hbm⟩)
          ((go_at_call 38; refine (HC.out _ C2.out).mono ?_; rintro e w3 ⟨rfl, q3⟩; have B3 := Lib.hid (hb.trans (q3.mono hsz))))
        go_wp2
        go_roundg (l.length - (k + 1))
        case measure => have := HG.out; omega
        case rel => exact ⟨k + 1, by omega, by omega, rfl, by go_num, hall', B3.out⟩
    · have hka : Hid (k = aheadN l m) := by
        show _ = _
        exact (cnt_at (by omega) hall.out (.inl (by omega))).symm
      by_cases hq1 : k < l.length
      all_goals
        first
          | (have hd1 : decide (k < l.length) = false := by rw [decide_eq_false_iff_not]; exact hq1)
          | (have hd2 : decide (k < m.length) = false := by rw [decide_eq_false_iff_not]; omega)
        go_wp2
        go_quiet (fail)
        go_wp2
        have B9 := Lib.hid hb
        clear hlt
        have HKA := hka
        have hbe : Hid (behindN l m = cnt (backK l m) (min (l.length - k) (m.length - k))) := by show _ = _; unfold behindN; rw [← HKA.out]
        clear hka
        have hkl2 : (k : Int) ≤ (l.length : Int) := by omega
        have hkm2 : (k : Int) ≤ (m.length : Int) := by omega
        have hw5 : IntKind.i64.wrap ((l.length : Int) - (k : Int)) = (l.length : Int) - (k : Int) := IntWalk.i64_in _ (by omega)
        have hw6 : IntKind.i64.wrap ((m.length : Int) - (k : Int)) = (m.length : Int) - (k : Int) := IntWalk.i64_in _ (by omega)
        go_loopg [7] l.length (fun g s5 wr => ∃ j : Nat, j ≤ min (l.length - k) (m.length - k) ∧ g = l.length - j ∧ s5 = .int .i64 j ∧ Hid (∀ i, i < j → backK l m i = true) ∧ Below w.heap.size w wr)
        case atStart => exact ⟨0, Nat.zero_le _, by omega, rfl, fun j hj => by omega, by first | exact B9.out | exact blN B9.out _ | exact blN (blN B9.out _) _⟩
        case round =>
          clear hb hsz B9
          obtain ⟨j, hjn, hg, rfl, hall2, hb⟩ := hrel
          have HG2 := Lib.hid hg
          clear hg
          have hsz := hb.size
          have hj0 : (0 : Int) ≤ (j : Int) := by omega
          by_cases hlt : j < min (l.length - k) (m.length - k)
          · obtain ⟨i, hi⟩ : ∃ i, Hid (l.length - 1 - j = i) := ⟨_, Lib.hid rfl⟩
            obtain ⟨i2, hi2⟩ : ∃ i, Hid (m.length - 1 - j = i) := ⟨_, Lib.hid rfl⟩
            have hil : i < l.length := by have := hi.out; omega
            have him : i2 < m.length := by have := hi2.out; omega
            have he1 : (l.length : Int) - 1 - (j : Int) = (i : Int) := by have := hi.out; omega
            have he2 : (m.length : Int) - 1 - (j : Int) = (i2 : Int) := by have := hi2.out; omega
            have hbk := Lib.hid (backK_get hi.out hi2.out hil him)
            have hA2 := Lib.hid (HLT.out _ hb)
            have hB2 := Lib.hid (HMT.out _ hb)
            have hj1 : (j : Int) < (l.length : Int) - (k : Int) := by omega
            have hj6 : (j : Int) < (m.length : Int) - (k : Int) := by omega
            clear hlt HLT HMT
            obtain ⟨bl, offl, v2, v3, rfl, hblS, hcl, a0, a1, a2, a3, a4, rx, mx⟩ := (hA2.out).at hil
            obtain ⟨A1, c1, rfl⟩ := rx.form
            obtain ⟨A2, c2, rfl⟩ := mx.form
            have hbl := hblS.2
            obtain ⟨bm, offm, u2, u3, rfl, hbmS, hcm, b0, b1, b2, b3, b4, ry, my⟩ := (hB2.out).at him
            obtain ⟨A3, c3, rfl⟩ := ry.form
            obtain ⟨A4, c4, rfl⟩ := my.form
            have hbm := hbmS.2
            have HC : Hid (∀ w', Below wr.heap.size wr w' → Calls Tryz.prog 38 #[.agg #[.int .i64 l[i].k, .string l[i].t, .slice A1 l[i].a.length c1, .slice A2 l[i].m.length c2, .int .u8 l[i].c], .agg #[.int .i64 m[i2].k, .string m[i2].t, .slice A3 m[i2].a.length c3, .slice A4 m[i2].m.length c4, .int .u8 m[i2].c]] w' fun e w'' => e = .returned (.bool (oneB l[i] m[i2])) ∧ Below wr.heap.size wr w'') := fun w' h =>
              (refOne_any l[i] m[i2] _ _ _ _ S w' (rx.keep (.below h)) (mx.keep (.below h)) (ry.keep (.below h)) (my.keep (.below h))).mono fun e w'' ⟨he, hb⟩ => ⟨he, h.trans (hb.mono h.size)⟩
            have C2 := Lib.hid ((Below.refl wr.heap.size wr).drew)
            have T1 : Hid (Tok5 wr bl (offl + i * 5) l[i] A1 c1 A2 c2) := ⟨a0, a1, a2, a3, a4⟩
            have T2 : Hid (Tok5 wr bm (offm + i2 * 5) m[i2] A3 c3 A4 c4) := ⟨b0, b1, b2, b3, b4⟩
            clear rx ry mx my
            have hj2 : (i : Int) < (l.length : Int) := by omega
            have hj3 : (i2 : Int) < (m.length : Int) := by omega
            have hj4 : (0 : Int) ≤ (i : Int) := by omega
            have hj5 : (0 : Int) ≤ (i2 : Int) := by omega
            have hw1 : IntKind.i64.wrap ((l.length : Int) - 1) = (l.length : Int) - 1 := IntWalk.i64_in _ (by omega)
            have hw2 : IntKind.i64.wrap ((m.length : Int) - 1) = (m.length : Int) - 1 := IntWalk.i64_in _ (by omega)
            have hw3 : IntKind.i64.wrap (i : Int) = (i : Int) := IntWalk.i64_in _ (by omega)
            have hw4 : IntKind.i64.wrap (i2 : Int) = (i2 : Int) := IntWalk.i64_in _ (by omega)
            cases hz : oneB l[i] m[i2]
            · rw [hz] at HC
              have hfin : Hid (behindN l m = j) := by
                show _ = _
                rw [hbe.out]
                exact cnt_at hjn hall2.out (.inr (hbk.out.trans hz))
              go_wp2
              go_region_held3 (fun w' => (w'.cell? ⟨bl, offl + i * 5, none⟩ = some (.int .i64 l[i].k) ∧ w'.cell? ⟨bl, offl + i * 5 + 1, none⟩ = some (.string l[i].t) ∧ w'.cell? ⟨bl, offl + i * 5 + 1 + 1, none⟩ = some (.slice A1 l[i].a.length c1) ∧ w'.cell? ⟨bl, offl + i * 5 + 1 + 1 + 1, none⟩ = some (.slice A2 l[i].m.length c2) ∧ w'.cell? ⟨bl, offl + i * 5 + 1 + 1 + 1 + 1, none⟩ = some (.int .u8 l[i].c)) ∧ (w'.cell? ⟨bm, offm + i2 * 5, none⟩ = some (.int .i64 m[i2].k) ∧ w'.cell? ⟨bm, offm + i2 * 5 + 1, none⟩ = some (.string m[i2].t) ∧ w'.cell? ⟨bm, offm + i2 * 5 + 1 + 1, none⟩ = some (.slice A3 m[i2].a.length c3) ∧ w'.cell? ⟨bm, offm + i2 * 5 + 1 + 1 + 1, none⟩ = some (.slice A4 m[i2].m.length c4) ∧ w'.cell? ⟨bm, offm + i2 * 5 + 1 + 1 + 1 + 1, none⟩ = some (.int .u8 m[i2].c)))
                (first
                  | exact ⟨⟨a0, a1, a2, a3, a4⟩, ⟨b0, b1, b2, b3, b4⟩⟩
                  | exact ⟨T1.out.below q3 hbl, T2.out.below q3 hbm⟩)
                ((go_at_call 38; refine (HC.out _ C2.out).mono ?_; rintro e w3 ⟨rfl, q3⟩; have B3 := Lib.hid (hb.trans (q3.mono hsz))))
              go_wp2
              go_ret2
              exact ⟨by rw [← HKA.out, hfin.out]; rfl, B3.out⟩
            · rw [hz] at HC
              have hall3 : Hid (∀ i, i < j + 1 → backK l m i = true) := by
                show ∀ i, _
                intro x hx
                by_cases e : x = j
                · subst e; exact hbk.out.trans hz
                · exact hall2.out x (by omega)
              have hjn2 : j + 1 ≤ min (l.length - k) (m.length - k) := by omega
              go_wp2
              go_region_held3 (fun w' => (w'.cell? ⟨bl, offl + i * 5, none⟩ = some (.int .i64 l[i].k) ∧ w'.cell? ⟨bl, offl + i * 5 + 1, none⟩ = some (.string l[i].t) ∧ w'.cell? ⟨bl, offl + i * 5 + 1 + 1, none⟩ = some (.slice A1 l[i].a.length c1) ∧ w'.cell? ⟨bl, offl + i * 5 + 1 + 1 + 1, none⟩ = some (.slice A2 l[i].m.length c2) ∧ w'.cell? ⟨bl, offl + i * 5 + 1 + 1 + 1 + 1, none⟩ = some (.int .u8 l[i].c)) ∧ (w'.cell? ⟨bm, offm + i2 * 5, none⟩ = some (.int .i64 m[i2].k) ∧ w'.cell? ⟨bm, offm + i2 * 5 + 1, none⟩ = some (.string m[i2].t) ∧ w'.cell? ⟨bm, offm + i2 * 5 + 1 + 1, none⟩ = some (.slice A3 m[i2].a.length c3) ∧ w'.cell? ⟨bm, offm + i2 * 5 + 1 + 1 + 1, none⟩ = some (.slice A4 m[i2].m.length c4) ∧ w'.cell? ⟨bm, offm + i2 * 5 + 1 + 1 + 1 + 1, none⟩ = some (.int .u8 m[i2].c)))
                (first
                  | exact ⟨⟨a0, a1, a2, a3, a4⟩, ⟨b0, b1, b2, b3, b4⟩⟩
                  | exact ⟨T1.out.below q3 hbl, T2.out.below q3 hbm⟩)
                ((go_at_call 38; refine (HC.out _ C2.out).mono ?_; rintro e w3 ⟨rfl, q3⟩; have B3 := Lib.hid (hb.trans (q3.mono hsz))))
              go_wp2
              go_roundg (l.length - (j + 1))
              case measure => have := HG2.out; omega
              case rel => exact ⟨j + 1, hjn2, rfl, by go_num, hall3, B3.out⟩
          · have hfin : Hid (behindN l m = j) := by
              show _ = _
              rw [hbe.out]
              exact cnt_at hjn hall2.out (.inl (by omega))
            by_cases hq2 : (j : Int) < (l.length : Int) - (k : Int)
            all_goals
              first
                | (have hd3 : decide ((j : Int) < (l.length : Int) - (k : Int)) = false := by rw [decide_eq_false_iff_not]; exact hq2)
                | (have hd4 : decide ((j : Int) < (m.length : Int) - (k : Int)) = false := by rw [decide_eq_false_iff_not]; omega)
              go_wp2
              go_quiet (fail)
              go_wp2
              go_ret2
              exact ⟨by rw [← HKA.out, hfin.out]; rfl, blN hb _⟩
end Go.Proofs.YtkeillekikbhoaaGreatDoor

/- the depth at a place; what is left, by the reference. -/
namespace Go.Proofs.YtkeillekikbhoaaGreatDoor
open Go.RowKit

set_option maxRecDepth 100000 in
theorem spans_any (v : Value) (l : List Tk) (S : Nat → Prop) (w : World) (hv : Tks w S v l) (a b : Int) (z : Bool) (hz : Hid (z = decide (0 ≤ a ∧ a ≤ b ∧ b ≤ l.length))) :
    Calls Tryz.prog 31 #[v, .int .i64 a, .int .i64 b] w fun e w' => e = .returned (.bool z) ∧ w = w' := by
  obtain ⟨A, cap, rfl⟩ := hv.form
  have hm := hv.max
  unfold maxLen at hm
  by_cases h1 : 0 ≤ a
  · by_cases h2 : a ≤ b
    · by_cases h3 : b ≤ (l.length : Int)
      · have hf : Hid (z = true) := by show _ = _; rw [hz.out]; simp [h1, h2, h3]
        go_enter Tryz.func31, Tryz.ntmps31
        go_wp2
        go_ret
        exact ⟨by rw [hf.out]; rfl, rfl⟩
      · have hf : Hid (z = false) := by show _ = _; rw [hz.out]; simp [h3]
        have h3' : decide (b ≤ (l.length : Int)) = false := by rw [decide_eq_false_iff_not]; exact h3
        clear h3
        go_enter Tryz.func31, Tryz.ntmps31
        go_wp2
        go_ret
        exact ⟨by rw [hf.out]; rfl, rfl⟩
    · have hf : Hid (z = false) := by show _ = _; rw [hz.out]; simp [h2]
      have h2' : decide (a ≤ b) = false := by rw [decide_eq_false_iff_not]; exact h2
      clear h2
      go_enter Tryz.func31, Tryz.ntmps31
      go_wp2
      go_ret
      exact ⟨by rw [hf.out]; rfl, rfl⟩
  · have hf : Hid (z = false) := by show _ = _; rw [hz.out]; simp [h1]
    have h1' : decide (0 ≤ a) = false := by rw [decide_eq_false_iff_not]; exact h1
    clear h1
    go_enter Tryz.func31, Tryz.ntmps31
    go_wp2
    go_ret
    exact ⟨by rw [hf.out]; rfl, rfl⟩

theorem depS_1 {d : Int} {x : Tk} (h : x.k = 1) : depS d x = d + 1 := by unfold depS; rw [if_pos h]
theorem depS_2 {d : Int} {x : Tk} (h : x.k = 2) : depS d x = d - 1 := by unfold depS; rw [if_neg (by rw [h]; decide), if_pos h]
theorem depS_3 {d : Int} {x : Tk} (h : ¬ x.k = 1) (h2 : ¬ x.k = 2) : depS d x = d := by unfold depS; rw [if_neg h, if_neg h2]

set_option maxRecDepth 100000 in
theorem depth_any (v : Value) (l : List Tk) (S : Nat → Prop) (w : World) (hv : Tks w S v l) (p : Int) :
    Calls Tryz.prog 21 #[v, .int .i64 p] w fun e w' => e = .returned (.int .i64 (depthN l p)) ∧ Below w.heap.size w w' := by
  obtain ⟨A, cap, rfl⟩ := hv.form
  have hm := hv.max
  unfold maxLen at hm
  by_cases hp : 0 ≤ p ∧ p ≤ (l.length : Int)
  · obtain ⟨q, rfl⟩ : ∃ q : Nat, p = q := ⟨p.toNat, by omega⟩
    have hq : q ≤ l.length := by omega
    have hd : Hid (depthN l q = dep (l.take q)) := by show _ = _; unfold depthN; rw [if_pos (by omega), Int.toNat_natCast]
    have HS := Lib.hid (fun w' => spans_any (.slice A l.length cap) l S w')
    have hz : Hid (true = decide ((0 : Int) ≤ 0 ∧ (0 : Int) ≤ (q : Int) ∧ (q : Int) ≤ (l.length : Int))) := by show _ = _; simp; omega
    obtain ⟨l', hl'⟩ : ∃ l', Hid (l' = l.take q) := ⟨_, Lib.hid rfl⟩
    have el : l'.length = q := by rw [hl'.out, List.length_take]; omega
    have HT := Lib.hid (fun w' (h : Below w.heap.size w w') => (hv.below h).sub 0 q (Nat.zero_le _) hq)
    have eA : (if cap = 0 then A else Option.map (fun x : Addr => x.add (0 * 5)) A) = A := by split; rfl; cases A <;> simp [addr_add_0]
    rw [List.drop_zero, Nat.sub_zero, Nat.sub_zero, ← hl'.out, eA] at HT
    clear eA
    rw [← hl'.out] at hd
    have hq1 : (q : Int) ≤ (l.length : Int) := by omega
    have hcap : l.length ≤ cap := by obtain ⟨_, ⟨_, _, hv0, _, h3, _⟩, _⟩ := hv; simp only [Value.slice.injEq] at hv0; omega
    have hq2 : (q : Int) ≤ (cap : Int) := by omega
    have hq0 : (0 : Int) ≤ (q : Int) := by omega
    go_enter Tryz.func21, Tryz.ntmps21
    go_wp2_with fail
    refine (HS.out w hv 0 q true hz).mono ?_
    rintro e w1 ⟨rfl, rfl⟩
    subst el
    clear hp HS hz hl' hq hv
    go_wp2
    go_loopg [5, 7, 16] l'.length (fun g s5 s7 s16 wr => ∃ k : Nat, ∃ d : Int, k ≤ l'.length ∧ g = l'.length - k ∧ s5 = .int .i64 d ∧ s16 = .int .i64 k ∧ -(k : Int) ≤ d ∧ d ≤ (k : Int) ∧ Hid (dep (l'.take k) = d) ∧ Below w.heap.size w wr)
    case atStart => exact ⟨0, 0, Nat.zero_le _, by omega, rfl, rfl, by omega, by omega, rfl, Below.refl _ _⟩
    case round =>
      obtain ⟨k, d, hk, hg, rfl, rfl, hd1, hd2, hq, hb⟩ := hrel
      have HG := Lib.hid hg
      clear hg
      by_cases hlt : k < l'.length
      · obtain ⟨b, off, va, vm, rfl, hbS, hcap2, h0, h1, h2, h3, h4, ra, rm⟩ := (HT.out _ hb).at hlt
        obtain ⟨A2, c2, rfl⟩ := ra.form
        obtain ⟨A3, c3, rfl⟩ := rm.form
        clear ra rm HT
        have hbs := hbS.2
        have hn : Hid (dep (l'.take (k + 1)) = depS d l'[k]) := by show _ = _; rw [dep_succ l' k hlt, hq.out]
        have hsz := hb.size
        generalize l'[k] = x at *
        obtain ⟨kk, tt, aa, mm, cc⟩ := x
        simp only at h0 h1 h2 h3 h4
        have hw1 : IntKind.i64.wrap (d + 1) = d + 1 := IntWalk.i64_in _ (by omega)
        have hw2 : IntKind.i64.wrap (d - 1) = d - 1 := IntWalk.i64_in _ (by omega)
        by_cases h1k : kk = 1
        · have hn' : Hid (dep (l'.take (k + 1)) = d + 1) := hn.out.trans (depS_1 h1k)
          subst h1k
          go_wp2
          go_roundg (l'.length - (k + 1))
          case measure => have := HG.out; omega
          case rel => exact ⟨k + 1, d + 1, by omega, rfl, rfl, by go_num, by omega, by omega, hn', hb.alloc hsz _⟩
        · have h1b : (kk == 1) = false := beq_eq_false_iff_ne.2 h1k
          by_cases h2k : kk = 2
          · have hn' : Hid (dep (l'.take (k + 1)) = d - 1) := hn.out.trans (depS_2 h2k)
            subst h2k
            clear h1k
            go_wp2
            go_roundg (l'.length - (k + 1))
            case measure => have := HG.out; omega
            case rel => exact ⟨k + 1, d - 1, by omega, rfl, rfl, by go_num, by omega, by omega, hn', hb.alloc hsz _⟩
          · have hn' : Hid (dep (l'.take (k + 1)) = d) := hn.out.trans (depS_3 h1k h2k)
            have h2b : (kk == 2) = false := beq_eq_false_iff_ne.2 h2k
            clear h1k h2k
            go_wp2
            go_roundg (l'.length - (k + 1))
            case measure => have := HG.out; omega
            case rel => exact ⟨k + 1, d, by omega, rfl, rfl, by go_num, by omega, by omega, hn', hb.alloc hsz _⟩
      · have e : k = l'.length := by omega
        have hf : Hid (dep l' = d) := by
          show _ = _
          have := hq.out
          rwa [e, List.take_length] at this
        go_wp2
        go_ret
        exact ⟨ret_int (by rw [hd.out, hf.out]), hb⟩
  · have hd : Hid (depthN l p = 0) := by show _ = _; unfold depthN; rw [if_neg hp]
    have hz : Hid (false = decide ((0 : Int) ≤ 0 ∧ (0 : Int) ≤ p ∧ p ≤ (l.length : Int))) := by show _ = _; simp; omega
    go_enter Tryz.func21, Tryz.ntmps21
    go_wp2_with fail
    refine (spans_any _ l S w hv 0 p false hz).mono ?_
    rintro e w1 ⟨rfl, rfl⟩
    go_wp2
    go_ret
    exact ⟨ret_int hd.out.symm, Below.refl _ _⟩

set_option maxRecDepth 100000 in
theorem refDepth_any (v : Value) (l : List Tk) (S : Nat → Prop) (w : World) (hv : Tks w S v l) (p : Int) :
    Calls Tryz.prog 22 #[v, .int .i64 p] w fun e w' => e = .returned (.int .i64 (depthN l p)) ∧ Below w.heap.size w w' := by
  obtain ⟨A, cap, rfl⟩ := hv.form
  have hm := hv.max
  unfold maxLen at hm
  by_cases hp : 0 ≤ p ∧ p ≤ (l.length : Int)
  · obtain ⟨q, rfl⟩ : ∃ q : Nat, p = q := ⟨p.toNat, by omega⟩
    have hq : q ≤ l.length := by omega
    have hd : Hid (depthN l q = dep (l.take q)) := by show _ = _; unfold depthN; rw [if_pos (by omega), Int.toNat_natCast]
    have hq1 : (q : Int) ≤ (l.length : Int) := by omega
    clear hp
    go_enter Tryz.func22, Tryz.ntmps22
    go_wp2
    go_loopg [5, 6] l.length (fun g s5 s6 wr => ∃ k : Nat, ∃ d : Int, k ≤ q ∧ g = l.length - k ∧ s5 = .int .i64 d ∧ s6 = .int .i64 k ∧ -(k : Int) ≤ d ∧ d ≤ (k : Int) ∧ Hid (dep (l.take k) = d) ∧ Below w.heap.size w wr)
    case atStart => exact ⟨0, 0, Nat.zero_le _, by omega, rfl, rfl, by omega, by omega, rfl, Below.refl _ _⟩
    case round =>
      obtain ⟨k, d, hk, hg, rfl, rfl, hd1, hd2, hqd, hb⟩ := hrel
      have HG := Lib.hid hg
      clear hg
      by_cases hltq : k < q
      · have hlt : k < l.length := by omega
        obtain ⟨b, off, va, vm, rfl, hbS, hcap2, h0, h1, h2, h3, h4, ra, rm⟩ := (hv.below hb).at hlt
        clear ra rm
        have hbs := hbS.2
        have hn : Hid (dep (l.take (k + 1)) = depS d l[k]) := by show _ = _; rw [dep_succ l k hlt, hqd.out]
        have hi0 : (0 : Int) ≤ (k : Int) := by omega
        have hi1 : (k : Int) < (l.length : Int) := by omega
        have hi2 : (k : Int) < (q : Int) := by omega
        generalize l[k] = x at *
        obtain ⟨kk, tt, aa, mm, cc⟩ := x
        simp only at h0 h1 h2 h3 h4
        have hw1 : IntKind.i64.wrap (d + 1) = d + 1 := IntWalk.i64_in _ (by omega)
        have hw2 : IntKind.i64.wrap (d - 1) = d - 1 := IntWalk.i64_in _ (by omega)
        by_cases h1k : kk = 1
        · have hn' : Hid (dep (l.take (k + 1)) = d + 1) := hn.out.trans (depS_1 h1k)
          subst h1k
          go_wp2
          go_roundg (l.length - (k + 1))
          case measure => have := HG.out; omega
          case rel => exact ⟨k + 1, d + 1, by omega, rfl, rfl, by go_num, by omega, by omega, hn', hb⟩
        · have h1b : (kk == 1) = false := beq_eq_false_iff_ne.2 h1k
          by_cases h2k : kk = 2
          · have hn' : Hid (dep (l.take (k + 1)) = d - 1) := hn.out.trans (depS_2 h2k)
            subst h2k
            clear h1k
            go_wp2
            go_roundg (l.length - (k + 1))
            case measure => have := HG.out; omega
            case rel => exact ⟨k + 1, d - 1, by omega, rfl, rfl, by go_num, by omega, by omega, hn', hb⟩
          · have hn' : Hid (dep (l.take (k + 1)) = d) := hn.out.trans (depS_3 h1k h2k)
            have h2b : (kk == 2) = false := beq_eq_false_iff_ne.2 h2k
            clear h1k h2k
            go_wp2
            go_roundg (l.length - (k + 1))
            case measure => have := HG.out; omega
            case rel => exact ⟨k + 1, d, by omega, rfl, rfl, by go_num, by omega, by omega, hn', hb⟩
      · have e : k = q := by omega
        have hf : Hid (dep (l.take q) = d) := by show _ = _; rw [← e]; exact hqd.out
        have hlt2 : decide (k < q) = false := by rw [decide_eq_false_iff_not]; exact hltq
        clear hltq e
        go_wp2
        go_ret
        exact ⟨ret_int (by rw [hd.out, hf.out]), hb⟩
  · have hd : Hid (depthN l p = 0) := by show _ = _; unfold depthN; rw [if_neg hp]
    by_cases h0 : 0 < p
    · have h1 : decide (p ≤ (l.length : Int)) = false := by rw [decide_eq_false_iff_not]; omega
      clear hp
      go_enter Tryz.func22, Tryz.ntmps22
      go_wp2
      go_loopg [5, 6] 0 (fun g s5 s6 wr => g = 0 ∧ s5 = .int .i64 0 ∧ s6 = .int .i64 0 ∧ Below w.heap.size w wr)
      case atStart => exact ⟨rfl, rfl, rfl, Below.refl _ _⟩
      case round =>
        obtain ⟨_, rfl, rfl, hb⟩ := hrel
        go_wp2
        go_ret
        exact ⟨ret_int hd.out.symm, hb⟩
    · have h1 : decide (0 < p) = false := by rw [decide_eq_false_iff_not]; exact h0
      clear hp h0
      go_enter Tryz.func22, Tryz.ntmps22
      go_wp2
      go_loopg [5, 6] 0 (fun g s5 s6 wr => g = 0 ∧ s5 = .int .i64 0 ∧ s6 = .int .i64 0 ∧ Below w.heap.size w wr)
      case atStart => exact ⟨rfl, rfl, rfl, Below.refl _ _⟩
      case round =>
        obtain ⟨_, rfl, rfl, hb⟩ := hrel
        go_wp2
        go_ret
        exact ⟨ret_int hd.out.symm, hb⟩

set_option maxRecDepth 100000 in
theorem refLeft_any (v : Value) (l : List Tk) (S : Nat → Prop) (w : World) (hv : Tks w S v l) :
    Calls Tryz.prog 17 #[v] w fun e w' => e = .returned (.tuple #[.int .i64 ((lft l).1 : Nat), .int .i64 ((lft l).2 : Nat)]) ∧ Below w.heap.size w w' := by
  obtain ⟨A, cap, rfl⟩ := hv.form
  have hm := hv.max
  unfold maxLen at hm
  go_enter Tryz.func17, Tryz.ntmps17
  go_wp2
  go_loopg [4, 5, 6] l.length (fun g s2 s3 s8 wr => ∃ k c o : Nat, k ≤ l.length ∧ g = l.length - k ∧ s2 = .int .i64 c ∧ s3 = .int .i64 o ∧ s8 = .int .i64 k ∧ c + o ≤ k ∧ Hid (lft (l.take k) = (c, o)) ∧ Below w.heap.size w wr)
  case atStart => exact ⟨0, 0, 0, Nat.zero_le _, by omega, rfl, rfl, rfl, by omega, rfl, Below.refl _ _⟩
  case round =>
    obtain ⟨k, c, o, hk, hg, rfl, rfl, rfl, hco, hq, hb⟩ := hrel
    have HG := Lib.hid hg
    clear hg
    by_cases hlt : k < l.length
    · obtain ⟨b, off, va, vm, rfl, hbS, hcap, h0, h1, h2, h3, h4, ra, rm⟩ := (hv.below hb).at hlt
      clear ra rm
      have hbs := hbS.2
      have hn : Hid (lft (l.take (k + 1)) = lftS (c, o) l[k]) := by show _ = _; rw [lft_succ l k hlt, hq.out]
      have hi0 : (0 : Int) ≤ (k : Int) := by omega
      have hi1 : (k : Int) < (l.length : Int) := by omega
      generalize l[k] = x at *
      obtain ⟨kk, tt, aa, mm, cc⟩ := x
      simp only at h0 h1 h2 h3 h4
      by_cases h1k : kk = 1
      · have hn' : Hid (lft (l.take (k + 1)) = (c, o + 1)) := hn.out.trans (lftS_1 h1k)
        subst h1k
        go_wp2
        go_roundg (l.length - (k + 1))
        case measure => have := HG.out; omega
        case rel => exact ⟨k + 1, c, o + 1, by omega, rfl, rfl, by go_num, by go_num, by omega, hn', hb⟩
      · have h1b : (kk == 1) = false := beq_eq_false_iff_ne.2 h1k
        by_cases h2k : kk = 2
        · by_cases ho : 0 < o
          · have hn' : Hid (lft (l.take (k + 1)) = (c, o - 1)) := hn.out.trans (lftS_2 h2k ho)
            have ho1 : (0 : Int) < (o : Int) := by omega
            subst h2k
            clear h1k
            go_wp2
            go_roundg (l.length - (k + 1))
            case measure => have := HG.out; omega
            case rel => exact ⟨k + 1, c, o - 1, by omega, rfl, rfl, by go_num, by go_num, by omega, hn', hb⟩
          · have hn' : Hid (lft (l.take (k + 1)) = (c + 1, o)) := hn.out.trans (lftS_3 h2k ho)
            have ho1 : ¬ (0 : Int) < (o : Int) := by omega
            subst h2k
            clear h1k
            go_wp2
            go_roundg (l.length - (k + 1))
            case measure => have := HG.out; omega
            case rel => exact ⟨k + 1, c + 1, o, by omega, rfl, by go_num, rfl, by go_num, by omega, hn', hb⟩
        · have hn' : Hid (lft (l.take (k + 1)) = (c, o)) := hn.out.trans (lftS_4 h1k h2k)
          have h2b : (kk == 2) = false := beq_eq_false_iff_ne.2 h2k
          clear h1k h2k
          go_wp2
          go_roundg (l.length - (k + 1))
          case measure => have := HG.out; omega
          case rel => exact ⟨k + 1, c, o, by omega, rfl, rfl, rfl, by go_num, by omega, hn', hb⟩
    · have e : k = l.length := by omega
      have hf : Hid (lft l = (c, o)) := by
        show _ = _
        have := hq.out
        rwa [e, List.take_length] at this
      go_wp2
      go_ret2
      exact ⟨by rw [hf.out]; rfl, hb⟩
end Go.Proofs.YtkeillekikbhoaaGreatDoor

/- the kit's Marks and Tokens at lists that are the same. -/
namespace Go.Proofs.YtkeillekikbhoaaGreatDoor
open Go.RowKit

set_option maxRecDepth 100000 in
set_option maxHeartbeats 2000000 in
theorem kitMarks_any (va vb : Value) (l : List Mk) (S : Nat → Prop) (w : World) (hl : Mks w S va l) (hm : Mks w S vb l) :
    Calls Tryz.prog 40 #[va, vb] w fun e w' => e = .returned (.bool true) ∧ Below w.heap.size w w' := by
  obtain ⟨A, ca, rfl⟩ := hl.form
  obtain ⟨B, cb, rfl⟩ := hm.form
  have hml := hl.max
  unfold maxLen at hml
  go_enter Tryz.func40, Tryz.ntmps40
  go_wp2
  go_loopg [5] l.length (fun g s5 wr => ∃ k : Nat, k ≤ l.length ∧ g = l.length - k ∧ s5 = .int .i64 k ∧ Below w.heap.size w wr)
  case atStart => exact ⟨0, Nat.zero_le _, by omega, rfl, Below.refl _ _⟩
  case round =>
    obtain ⟨k, hk, hg, rfl, hb⟩ := hrel
    have HG := Lib.hid hg
    clear hg
    have hsz := hb.size
    by_cases hlt : k < l.length
    · obtain ⟨bl, offl, vx, rfl, hblS, hcl, hl0, hl1, rx⟩ := (hl.below hb).at hlt
      obtain ⟨Ax, cx, rfl⟩ := rx.form
      have hbl := hblS.2
      obtain ⟨bm, offm, vy, rfl, hbmS, hcm, hm0, hm1, ry⟩ := (hm.below hb).at hlt
      obtain ⟨Ay, cy, rfl⟩ := ry.form
      have hbm := hbmS.2
      have hi0 : (0 : Int) ≤ (k : Int) := by omega
      have hi1 : (k : Int) < (l.length : Int) := by omega
      have HC : Hid (∀ w', Below wr.heap.size wr w' → Calls Tryz.prog 39 #[.slice Ax l[k].a.length cx, .slice Ay l[k].a.length cy] w' fun e w'' => e = .returned (.bool true) ∧ Below wr.heap.size wr w'') := fun w' h =>
        (attrs_any _ _ _ _ _ w' (rx.keep (.below h)).rd (ry.keep (.below h)).rd (Nat.le_refl _)).mono fun e w'' ⟨he, hb⟩ => ⟨by rw [he, eqA_self], h.trans (hb.mono h.size)⟩
      have C2 := Lib.hid ((Below.refl wr.heap.size wr).drew)
      have hbn : (l[k].t.toList != l[k].t.toList) = false := by simp
      clear rx ry
      generalize l[k].t = xt at *
      generalize l[k].a.length = xn at *
      go_wp2
      go_region_held3 (fun w' => w'.cell? ⟨bl, offl + k * 2, none⟩ = some (.string xt) ∧ w'.cell? ⟨bl, offl + k * 2 + 1, none⟩ = some (.slice Ax xn cx) ∧ w'.cell? ⟨bm, offm + k * 2, none⟩ = some (.string xt) ∧ w'.cell? ⟨bm, offm + k * 2 + 1, none⟩ = some (.slice Ay xn cy))
        (first
          | exact ⟨hl0, hl1, hm0, hm1⟩
          | exact ⟨(q3.cell (p := ⟨bl, offl + k * 2, none⟩) hbl).trans hl0, (q3.cell (p := ⟨bl, offl + k * 2 + 1, none⟩) hbl).trans hl1, (q3.cell (p := ⟨bm, offm + k * 2, none⟩) hbm).trans hm0, (q3.cell (p := ⟨bm, offm + k * 2 + 1, none⟩) hbm).trans hm1⟩)
        ((go_at_call 39; refine (HC.out _ C2.out).mono ?_; rintro e w3 ⟨rfl, q3⟩; have B3 := Lib.hid (hb.trans (q3.mono hsz))))
      go_wp2
      go_roundg (l.length - (k + 1))
      case measure => have := HG.out; omega
      case rel => exact ⟨k + 1, by omega, rfl, by go_num, B3.out⟩
    · go_wp2
      go_ret
      exact ⟨rfl, hb⟩

set_option maxRecDepth 100000 in
set_option maxHeartbeats 2000000 in
theorem kitTokens_any (va vb : Value) (l : List Tk) (S : Nat → Prop) (w : World) (hl : Tks w S va l) (hm : Tks w S vb l) :
    Calls Tryz.prog 20 #[va, vb] w fun e w' => e = .returned (.bool true) ∧ Below w.heap.size w w' := by
  obtain ⟨A, ca, rfl⟩ := hl.form
  obtain ⟨B, cb, rfl⟩ := hm.form
  have hml := hl.max
  unfold maxLen at hml
  go_enter Tryz.func20, Tryz.ntmps20
  go_wp2
  go_loopg [5, 6, 7] l.length (fun g s5 s6 s7 wr => ∃ k : Nat, k ≤ l.length ∧ g = l.length - k ∧ s5 = .int .i64 k ∧ Below w.heap.size w wr)
  case atStart => exact ⟨0, Nat.zero_le _, by omega, rfl, Below.refl _ _⟩
  case round =>
    obtain ⟨k, hk, hg, rfl, hb⟩ := hrel
    have HG := Lib.hid hg
    clear hg
    have hsz := hb.size
    by_cases hlt : k < l.length
    · obtain ⟨bl, offl, v2, v3, rfl, hblS, hcl, a0, a1, a2, a3, a4, rx, mx⟩ := (hl.below hb).at hlt
      obtain ⟨A1, c1, rfl⟩ := rx.form
      obtain ⟨A2, c2, rfl⟩ := mx.form
      have hbl := hblS.2
      obtain ⟨bm, offm, u2, u3, rfl, hbmS, hcm, b0, b1, b2, b3, b4, ry, my⟩ := (hm.below hb).at hlt
      obtain ⟨A3, c3, rfl⟩ := ry.form
      obtain ⟨A4, c4, rfl⟩ := my.form
      have hbm := hbmS.2
      have hi0 : (0 : Int) ≤ (k : Int) := by omega
      have hi1 : (k : Int) < (l.length : Int) := by omega
      have HC : Hid (∀ w', Below wr.heap.size wr w' → Calls Tryz.prog 39 #[.slice A1 l[k].a.length c1, .slice A3 l[k].a.length c3] w' fun e w'' => e = .returned (.bool true) ∧ Below w'.heap.size w' w'' ∧ Below wr.heap.size wr w'') := fun w' h =>
        (attrs_any _ _ _ _ _ w' (rx.keep (.below h)).rd (ry.keep (.below h)).rd (Nat.le_refl _)).mono fun e w'' ⟨he, hb⟩ => ⟨by rw [he, eqA_self], hb, h.trans (hb.mono h.size)⟩
      have HM : Hid (∀ w', Below wr.heap.size wr w' → Calls Tryz.prog 40 #[.slice A2 l[k].m.length c2, .slice A4 l[k].m.length c4] w' fun e w'' => e = .returned (.bool true) ∧ Below wr.heap.size wr w'') := fun w' h =>
        (kitMarks_any _ _ _ S w' (mx.keep (.below h)) (my.keep (.below h))).mono fun e w'' ⟨he, hb⟩ => ⟨he, h.trans (hb.mono h.size)⟩
      clear rx ry mx my
      generalize l[k].t = xt at *
      generalize l[k].k = xk at *
      generalize l[k].c = xc at *
      generalize l[k].a.length = xn at *
      generalize l[k].m.length = xm at *
      have hbn : (xt.toList != xt.toList) = false := by simp
      have hbk : (xk != xk) = false := by simp
      have hbc : (xc != xc) = false := by simp
      go_wp2
      go_region_held3 (fun w' => (w'.cell? ⟨bl, offl + k * 5, none⟩ = some (.int .i64 xk) ∧ w'.cell? ⟨bl, offl + k * 5 + 1, none⟩ = some (.string xt) ∧ w'.cell? ⟨bl, offl + k * 5 + 1 + 1, none⟩ = some (.slice A1 xn c1) ∧ w'.cell? ⟨bl, offl + k * 5 + 1 + 1 + 1, none⟩ = some (.slice A2 xm c2) ∧ w'.cell? ⟨bl, offl + k * 5 + 1 + 1 + 1 + 1, none⟩ = some (.int .u8 xc)) ∧ (w'.cell? ⟨bm, offm + k * 5, none⟩ = some (.int .i64 xk) ∧ w'.cell? ⟨bm, offm + k * 5 + 1, none⟩ = some (.string xt) ∧ w'.cell? ⟨bm, offm + k * 5 + 1 + 1, none⟩ = some (.slice A3 xn c3) ∧ w'.cell? ⟨bm, offm + k * 5 + 1 + 1 + 1, none⟩ = some (.slice A4 xm c4) ∧ w'.cell? ⟨bm, offm + k * 5 + 1 + 1 + 1 + 1, none⟩ = some (.int .u8 xc)))
        (first
          | exact ⟨⟨a0, a1, a2, a3, a4⟩, ⟨b0, b1, b2, b3, b4⟩⟩
          | (refine ⟨⟨?_, ?_, ?_, ?_, ?_⟩, ⟨?_, ?_, ?_, ?_, ?_⟩⟩ <;> go_simp))
        (fail)
      · go_wp2_with fail
        refine (HC.out _ (by exact ((((Below.refl _ _).alloc (Nat.le_refl _) _).alloc (by simp) _).drew))).mono ?_
        rintro e w3 ⟨rfl, q3, p3⟩
        have B3 := Lib.hid p3
        have hs3 : wr.heap.size + 1 < w3.heap.size := by have := q3.size; simp at this; omega
        have hs4 : wr.heap.size < w3.heap.size := by omega
        have z1 : w3.cell? ⟨wr.heap.size, 3, none⟩ = some (.slice A2 xm c2) := (q3.cell (p := ⟨wr.heap.size, 3, none⟩) (by simp <;> omega)).trans (by go_simp)
        have z2 : w3.cell? ⟨wr.heap.size + 1, 3, none⟩ = some (.slice A4 xm c4) := (q3.cell (p := ⟨wr.heap.size + 1, 3, none⟩) (by simp <;> omega)).trans (by go_simp)
        clear q3 p3 a0 a1 a2 a3 a4 b0 b1 b2 b3 b4 hl hm HC
        go_wp2_with fail
        refine (HM.out _ B3.out).mono ?_
        rintro e w4 ⟨rfl, q4⟩
        have B4 := hb.trans (q4.mono hsz)
        clear q4 B3 z1 z2 hs3 hs4 HM
        go_wp2
        go_roundg (l.length - (k + 1))
        case measure => have := HG.out; omega
        case rel => exact ⟨k + 1, by omega, rfl, by go_num, B4⟩
      · go_wp2_with fail
        refine (HC.out _ (by exact ((((Below.refl _ _).alloc (Nat.le_refl _) _).alloc (by simp) _).drew))).mono ?_
        rintro e w3 ⟨rfl, q3, p3⟩
        have B3 := Lib.hid p3
        have hs3 : wr.heap.size + 1 < w3.heap.size := by have := q3.size; simp at this; omega
        have hs4 : wr.heap.size < w3.heap.size := by omega
        have z1 : w3.cell? ⟨wr.heap.size, 3, none⟩ = some (.slice A4 xm c4) := (q3.cell (p := ⟨wr.heap.size, 3, none⟩) (by simp <;> omega)).trans (by go_simp)
        have z2 : w3.cell? ⟨wr.heap.size + 1, 3, none⟩ = some (.slice A2 xm c2) := (q3.cell (p := ⟨wr.heap.size + 1, 3, none⟩) (by simp <;> omega)).trans (by go_simp)
        clear q3 p3 a0 a1 a2 a3 a4 b0 b1 b2 b3 b4 hl hm HC
        go_wp2_with fail
        refine (HM.out _ B3.out).mono ?_
        rintro e w4 ⟨rfl, q4⟩
        have B4 := hb.trans (q4.mono hsz)
        clear q4 B3 z1 z2 hs3 hs4 HM
        go_wp2
        go_roundg (l.length - (k + 1))
        case measure => have := HG.out; omega
        case rel => exact ⟨k + 1, by omega, rfl, by go_num, B4⟩
    · go_wp2
      go_ret
      exact ⟨rfl, hb⟩
end Go.Proofs.YtkeillekikbhoaaGreatDoor
