/- WireBack: the walk. -/
import Derived.Test.YtnnimiemmgakcaaLives
import Derived.Test.YtnnimiemmgakcaaEnc
import Derived.Test.YtnnimiemmgakcaaRow
import Derived.Deep.RegionHeld3
import Derived.Deep.DeepCutAuto
namespace Go.Proofs.Ytnnimiemmgakcaa
open Go.RowKit

def nums (ns : List Nat) : List Value := ns.map fun (n : Nat) => Value.int .u64 (n : Int)
theorem nums_of {zs : List Int} (h : ∀ n ∈ zs, (Lit.int .u64 n).wf = true) : nums (zs.map Int.toNat) = zs.map (Value.int .u64) ∧ ∀ n ∈ zs.map Int.toNat, U64 n := by
  have hx : ∀ n ∈ zs, 0 ≤ n ∧ n ≤ 18446744073709551615 := fun n hn => by simpa [Lit.wf, IntKind.min, IntKind.max, IntKind.signed, IntKind.bits] using h n hn
  refine ⟨?_, ?_⟩
  · unfold nums
    rw [List.map_map]
    apply List.map_congr_left
    intro n hn
    have := hx n hn
    show Value.int .u64 (n.toNat : Int) = _
    congr 1
    omega
  · intro n hn
    obtain ⟨z, hz, rfl⟩ := List.mem_map.1 hn
    have := hx z hz
    unfold U64
    omega
def items (ns : List Nat) (ps : List ByteArray) : List (Nat × List UInt8) := ((ns.zip ps).take 50).map fun x => (x.1, x.2.data.toList)
theorem items_len (ns : List Nat) (ps : List ByteArray) : (items ns ps).length = min 50 (min ns.length ps.length) := by simp [items]

theorem items_get (ns : List Nat) (ps : List ByteArray) (k : Nat) (n : Nat) (p : ByteArray) (hk : k < 50) (hn : ns[k]? = some n) (hp : ps[k]? = some p) : (items ns ps)[k]? = some (n, p.data.toList) := by
  unfold items
  rw [List.getElem?_map, List.getElem?_take, if_pos hk, List.getElem?_zip_eq_some (z := (n, p)) |>.2 ⟨hn, hp⟩]
  rfl

theorem items_u64 {ns : List Nat} {ps : List ByteArray} (hu : ∀ n ∈ ns, U64 n) : ∀ it ∈ items ns ps, U64 it.1 := by
  intro it hit
  unfold items at hit
  obtain ⟨x, hx, rfl⟩ := List.mem_map.1 hit
  have := List.mem_of_mem_take hx
  exact hu x.1 (List.of_mem_zip this).1

set_option maxRecDepth 100000 in
set_option maxHeartbeats 1000000 in
theorem wireBack_walk (vx vp : Value) (ns : List Nat) (ps : List ByteArray) (bx bp : Nat) (w : World) (hx : Sl w bx vx (nums ns)) (hp : Sl w bp vp (ps.map Value.string)) (hu : ∀ n ∈ ns, U64 n) :
    Calls Try.prog 6 #[vx, vp] w (Yes w) := by
  obtain ⟨Ax, cx, rfl, hx1, hx2, hx3⟩ := hx
  obtain ⟨Ap, cp, rfl, hp1, hp2, hp3⟩ := hp
  have ex : (nums ns).length = ns.length := by simp [nums]
  have ep : (ps.map Value.string).length = ps.length := by simp
  rw [ex] at hx1 ⊢
  rw [ep] at hp1 ⊢
  unfold maxLen at hx2 hp2
  clear ex ep
  obtain ⟨m, hm⟩ : ∃ m, m = (items ns ps).length := ⟨_, rfl⟩
  have hm' : m = min 50 (min ns.length ps.length) := by rw [hm, items_len]
  have Hm := Lib.hid hm
  have hmx : m ≤ ns.length := by omega
  have hmp : m ≤ ps.length := by omega
  have hm50 : m ≤ 50 := by omega
  have hmin : m = 50 ∨ m = ns.length ∨ m = ps.length := by omega
  have Hmin := Lib.hid hmin
  clear hm hm' hmin
  go_enter Try.func6, Try.ntmps6
  go_wp2_with fail
  refine (lives_any w).mono ?_
  rintro e w1 ⟨rfl, B1⟩
  go_wp2_with fail
  go_loopw [5, 6] (fun v i wr => ∃ k : Nat, k ≤ m ∧ i = .int .i64 k ∧ Hid (Ow wr 5 w1.heap.size v (encs ((items ns ps).take k))) ∧ Below w1.heap.size w1 wr ∧ Hid (∀ it ∈ (items ns ps).take k, it.2.length ≤ 100)) (fun _ i _ => m - (intOf i).toNat)
  case atStart => exact ⟨0, Nat.zero_le _, rfl, Ow.nil _ _ _, Below.refl _ _, by simp [Hid]⟩
  case round =>
    obtain ⟨k, hk, rfl, ho, hb, hall⟩ := hrel
    by_cases hlt : k < m
    · rcases hx3 with h | ⟨ox, rfl, hbx, hxc⟩
      · have : ns.length = 0 := by simpa [nums] using congrArg List.length h
        omega
      rcases hp3 with h | ⟨op, rfl, hbp, hpc⟩
      · have : ps.length = 0 := by simpa using congrArg List.length h
        omega
      obtain ⟨n, hn⟩ : ∃ n, ns[k]? = some n := ⟨_, List.getElem?_eq_getElem (by omega)⟩
      obtain ⟨p, hp⟩ : ∃ p, ps[k]? = some p := ⟨_, List.getElem?_eq_getElem (by omega)⟩
      have hit := items_get ns ps k n p (by omega) hn hp
      have hcx : wr.cell? ⟨bx, ox + k, none⟩ = some (.int .u64 (n : Int)) := by
        rw [hb.cell (p := ⟨bx, ox + k, none⟩) (Nat.lt_of_lt_of_le hbx B1.size), B1.cell (p := ⟨bx, ox + k, none⟩) hbx]
        exact hxc k _ (by simp [nums, hn])
      have hcp : wr.cell? ⟨bp, op + k, none⟩ = some (.string p) := by
        rw [hb.cell (p := ⟨bp, op + k, none⟩) (Nat.lt_of_lt_of_le hbp B1.size), B1.cell (p := ⟨bp, op + k, none⟩) hbp]
        exact hpc k _ (by simp [hp])
      have hun : U64 n := hu n (List.mem_of_getElem? hn)
      have Hit := Lib.hid hit
      have hkx : k < ns.length := by omega
      have hkp : k < ps.length := by omega
      have hk50 : k < 50 := by omega
      clear hxc hpc hn hp hit
      by_cases hlong : 100 < p.size
      · go_wp2
        go_ret
        exact ⟨rfl, B1.trans (hb.mono B1.size)⟩
      · obtain ⟨c5, ob5, _, _⟩ := ho.out.bs
        have hL : (encs ((items ns ps).take k)).length ≤ 1000000 := by
          have h1 := encs_len (its := (items ns ps).take k) (fun it hit => ⟨items_u64 hu it (List.mem_of_mem_take hit), hall.out it hit⟩)
          have h2 : ((items ns ps).take k).length ≤ 50 := by rw [List.length_take]; omega
          omega
        obtain ⟨L, hLe⟩ : ∃ L, Hid (L = encs ((items ns ps).take k)) := ⟨_, rfl⟩
        rw [← hLe.out] at ob5 hL
        have hcx0 : (wr.drew).cell? ⟨bx, ox + k, none⟩ = some (.int .u64 (n : Int)) := hcx
        have hcp0 : (wr.drew).cell? ⟨bp, op + k, none⟩ = some (.string p) := hcp
        have hun10 : (Lib.uvarint n).length ≤ 10 := szN_le hun
        have hbx' : bx < wr.heap.size := Nat.lt_of_lt_of_le hbx (Nat.le_trans B1.size hb.size)
        have hbp' : bp < wr.heap.size := Nat.lt_of_lt_of_le hbp (Nat.le_trans B1.size hb.size)
        go_wp2_with fail
        go_region_held3 (fun w' => w'.cell? ⟨bx, ox + k, none⟩ = some (.int .u64 (n : Int)) ∧ w'.cell? ⟨bp, op + k, none⟩ = some (.string p))
          (first
            | exact ⟨hcx0, hcp0⟩
            | exact ⟨((hb2.trans (hb3.mono hb2.size)).cell (p := ⟨bx, ox + k, none⟩) hbx').trans hcx0, ((hb2.trans (hb3.mono hb2.size)).cell (p := ⟨bp, op + k, none⟩) hbp').trans hcp0⟩
            | exact ⟨(hb2.cell (p := ⟨bx, ox + k, none⟩) hbx').trans hcx0, (hb2.cell (p := ⟨bp, op + k, none⟩) hbp').trans hcp0⟩)
          (first
            | (go_at_call 8; refine (number_any u5 L c5 n hun wr.drew (Bs.drew ob5) (by omega)).mono ?_; rintro e w2 ⟨v2, rfl, o2, hb2⟩)
            | (go_at_call 9; obtain ⟨c6, ob6, _, _⟩ := o2.bs; refine (piece_any v2 (L ++ Lib.uvarint n) c6 p w2 ob6 (by simp; omega) (by omega)).mono ?_; rintro e w3 ⟨v3, rfl, o3, hb3⟩))
        have hb1 : Below w1.heap.size w1 w3 := (hb.drew.trans (hb2.mono hb.size)).trans (hb3.mono (Nat.le_trans hb.size hb2.size))
        have hsz2 : w1.heap.size ≤ w2.heap.size := Nat.le_trans hb.size hb2.size
        have htk : (items ns ps).take (k + 1) = (items ns ps).take k ++ [(n, p.data.toList)] := by
          rw [List.take_succ_eq_append_getElem (by rw [← Hm.out]; exact hlt)]
          congr 2
          have := Hit.out
          rw [List.getElem?_eq_getElem (by rw [← Hm.out]; exact hlt)] at this
          exact Option.some.inj this
        have ep : p.size = p.data.toList.length := by rw [Array.length_toList]; rfl
        have hall' : Hid (∀ it ∈ (items ns ps).take (k + 1), it.2.length ≤ 100) := by
          intro it hit
          rw [htk] at hit
          rcases List.mem_append.1 hit with h | h
          · exact hall.out it h
          · simp only [List.mem_singleton] at h
            subst h
            show p.data.toList.length ≤ 100
            omega
        have ho' : Hid (Ow w3 5 w1.heap.size v3 (encs ((items ns ps).take (k + 1)))) := by
          show Ow _ _ _ _ _
          have e1 : encs ((items ns ps).take (k + 1)) = L ++ Lib.uvarint n ++ Lib.uvarint p.size ++ p.data.toList := by
            rw [htk, encs_snoc, ← hLe.out, enc1, ← ep]
            simp
          rw [e1]
          exact o3.mono hsz2
        clear htk hb2 hb3 o2 o3 ob5 ob6 hL hcx hcp hcx0 hcp0 ep ho hall hb
        go_wp2
        go_roundw
        case rel => exact ⟨k + 1, by omega, by go_num, ho', hb1, hall'⟩
        case measure => simp [intOf]; omega
    · have hkm : k = m := by omega
      subst hkm
      go_upto_region 5 with fail
      go_cut [28] (fun s wx => s = .bool false ∧ wx = wr)
      case first =>
        by_cases c1 : k < ns.length
        · by_cases c2 : k < ps.length
          · have c3 : ¬ k < 50 := by have := Hmin.out; omega
            go_wp2_with fail
            go_meet
            case rel => exact ⟨by first | rfl | (simp; omega), rfl⟩
          · go_wp2_with fail
            go_meet
            case rel => exact ⟨by first | rfl | (simp; omega), rfl⟩
        · go_wp2_with fail
          go_meet
          case rel => exact ⟨by first | rfl | (simp; omega), rfl⟩
      case rest =>
        obtain ⟨rfl, rfl⟩ := hcut
        have hE : (items ns ps).take k = items ns ps := List.take_of_length_le (by rw [← Hm.out]; exact Nat.le_refl _)
        rw [hE] at ho hall
        clear hE
        have hI : ∀ it ∈ items ns ps, U64 it.1 ∧ it.2.length ≤ 100 := fun it hit => ⟨items_u64 hu it hit, hall.out it hit⟩
        have HI := Lib.hid hI
        have hEl : (encs (items ns ps)).length ≤ 6000 := by
          have := encs_len hI
          have h2 := Hm.out
          omega
        clear hI hall hu
        obtain ⟨c5, ob5, hc5, hown5⟩ := ho.out.bs
        obtain ⟨A5, cp5, hu5⟩ := ho.out.form
        subst hu5
        go_wp2_with fail
        refine (new_any _ _ c5 wc ob5 (by omega)).mono ?_
        rintro e w2 ⟨g, c1, rfl, r2, hb2, hg2, hc1, _⟩
        have B2 : Below w1.heap.size w1 w2 := hb.trans (hb2.mono hb.size)
        have ob5' := ob5
        have ob5 := ob5.all hb2
        have hne5 : c5 ≠ g ∨ encs (items ns ps) = [] := by
          rcases ob5'.lt with h | h
          · exact .inr h
          · exact .inl (by omega)
        have hw1g : w1.heap.size ≤ g := Nat.le_trans hb.size hg2
        clear hb2 hb ho ob5'
        go_wp2_with fail
        go_loopw [10] (fun i wr => ∃ j : Nat, j ≤ k ∧ i = .int .i64 j ∧ Hid (Rdr wr g c1 (encs ((items ns ps).drop j)) 0) ∧ Hid (Below w1.heap.size w1 wr) ∧ Hid (Bs wr c5 (.slice A5 (encs (items ns ps)).length cp5) (encs (items ns ps)))) (fun i _ => k - (intOf i).toNat)
        case atStart => exact ⟨0, Nat.zero_le _, rfl, r2, B2, ob5⟩
        case round =>
          obtain ⟨j, hj, rfl, hr, hbr, hbs⟩ := hrel
          by_cases hjk : j < k
          · rcases hx3 with h | ⟨ox, rfl, hbx, hxc⟩
            · have : ns.length = 0 := by simpa [nums] using congrArg List.length h
              omega
            rcases hp3 with h | ⟨op, rfl, hbp, hpc⟩
            · have : ps.length = 0 := by simpa using congrArg List.length h
              omega
            obtain ⟨n, hn⟩ : ∃ n, ns[j]? = some n := ⟨_, List.getElem?_eq_getElem (by omega)⟩
            obtain ⟨p, hp⟩ : ∃ p, ps[j]? = some p := ⟨_, List.getElem?_eq_getElem (by omega)⟩
            have hit := items_get ns ps j n p (by omega) hn hp
            have hcx : wr.cell? ⟨bx, ox + j, none⟩ = some (.int .u64 (n : Int)) := by
              rw [hbr.out.cell (p := ⟨bx, ox + j, none⟩) (Nat.lt_of_lt_of_le hbx B1.size), B1.cell (p := ⟨bx, ox + j, none⟩) hbx]
              exact hxc j _ (by simp [nums, hn])
            have hcp : wr.cell? ⟨bp, op + j, none⟩ = some (.string p) := by
              rw [hbr.out.cell (p := ⟨bp, op + j, none⟩) (Nat.lt_of_lt_of_le hbp B1.size), B1.cell (p := ⟨bp, op + j, none⟩) hbp]
              exact hpc j _ (by simp [hp])
            have hcx0 : (wr.drew).cell? ⟨bx, ox + j, none⟩ = some (.int .u64 (n : Int)) := hcx
            have hcp0 : (wr.drew).cell? ⟨bp, op + j, none⟩ = some (.string p) := hcp
            have hgx : bx ≠ g := by have := Nat.lt_of_lt_of_le hbx B1.size; omega
            have hgp : bp ≠ g := by have := Nat.lt_of_lt_of_le hbp B1.size; omega
            have hdr : (items ns ps).drop j = (n, p.data.toList) :: (items ns ps).drop (j + 1) := by
              have hl : j < (items ns ps).length := by rw [← Hm.out]; exact hjk
              rw [List.drop_eq_getElem_cons hl]
              congr 1
              rw [List.getElem?_eq_getElem hl] at hit
              exact Option.some.inj hit
            have hIt := HI.out (n, p.data.toList) (List.mem_of_getElem? hit)
            obtain ⟨ht1, ht2⟩ := turn_ok hIt.1 hIt.2 (encs ((items ns ps).drop (j + 1)))
            have hlen1 : (encs ((items ns ps).drop j)).length ≤ 7000 := by
              have h1 := encs_len (its := (items ns ps).drop j) (fun it h => HI.out it (List.mem_of_mem_drop h))
              have h2 : ((items ns ps).drop j).length ≤ 50 := by rw [List.length_drop, ← Hm.out]; omega
              omega
            rw [hdr, encs_cons] at hr hlen1
            have hnum := num_any g c1 _ 0 wr.drew hr.out (by omega)
            rw [ht1] at hnum
            have hlen2 : (Lib.uvarint p.data.toList.length ++ (p.data.toList ++ encs ((items ns ps).drop (j + 1)))).length ≤ 7000 := by
              simp only [enc1, List.length_append] at hlen1 ⊢
              omega
            have hpce : ∀ W, Rdr W g c1 (Lib.uvarint p.data.toList.length ++ (p.data.toList ++ encs ((items ns ps).drop (j + 1)))) 0 → Calls Try.prog 20 #[.pointer (some ⟨g, 0, none⟩)] W (PieceR W g c1 (p.data.toList, encs ((items ns ps).drop (j + 1)), 0)) := by
              intro W hW
              have := pce_any g c1 _ 0 W hW (by omega)
              rw [ht2] at this
              exact this
            have Hnum := Lib.hid hnum
            have Hpce := Lib.hid hpce
            have hkx : j < ns.length := by omega
            have hkp : j < ps.length := by omega
            have hk50 : j < 50 := by omega
            clear hxc hpc hn hp hit hdr hIt ht1 ht2 hlen1 hlen2 hnum hpce hr
            go_wp2_with fail
            go_region_held3 (fun w' => w'.cell? ⟨bx, ox + j, none⟩ = some (.int .u64 (n : Int)) ∧ w'.cell? ⟨bp, op + j, none⟩ = some (.string p))
              (first
                | exact ⟨hcx0, hcp0⟩
                | exact ⟨hg4.cell (hg3.cell hcx0 (by simpa using hgx)) (by simpa using hgx), hg4.cell (hg3.cell hcp0 (by simpa using hgp)) (by simpa using hgp)⟩
                | exact ⟨hg3.cell hcx0 (by simpa using hgx), hg3.cell hcp0 (by simpa using hgp)⟩)
              (first
                | (go_at_call 19; refine Hnum.out.mono ?_; rintro e w3 ⟨rfl, r3, hg3⟩)
                | (go_at_call 20; refine (Hpce.out w3 r3).mono ?_; rintro e w4 ⟨rfl, r4, hg4⟩))
            have hbr' : Hid (Below w1.heap.size w1 w4) := (hbr.out.drew.grown hg3 hbr.out.size (fun k hk => by simp at hk; omega)).grown hg4 (Nat.le_trans hbr.out.size hg3.size) (fun k hk => by simp at hk; omega)
            have hbs' : Hid (Bs w4 c5 (.slice A5 (encs (items ns ps)).length cp5) (encs (items ns ps))) := (hbs.out.drew.grown hg3 (hne5.imp (by simp) id)).grown hg4 (hne5.imp (by simp) id)
            clear hg3 hg4 r3 hcx hcp hcx0 hcp0 Hnum Hpce hbr hbs
            go_wp2
            go_roundw
            case rel => exact ⟨j + 1, by omega, by go_num, r4, hbr', hbs'⟩
            case measure => simp [intOf]; omega
          · have hjk' : j = k := by omega
            subst hjk'
            go_upto_region 15 with fail
            go_cut [69] (fun s wx => s = .bool false ∧ wx = wr)
            case first =>
              by_cases c1 : j < ns.length
              · by_cases c2 : j < ps.length
                · have c3 : ¬ j < 50 := by have := Hmin.out; omega
                  go_wp2_with fail
                  go_meet
                  case rel => exact ⟨by first | rfl | (simp; omega), rfl⟩
                · go_wp2_with fail
                  go_meet
                  case rel => exact ⟨by first | rfl | (simp; omega), rfl⟩
              · go_wp2_with fail
                go_meet
                case rel => exact ⟨by first | rfl | (simp; omega), rfl⟩
            case rest =>
              obtain ⟨rfl, rfl⟩ := hcut
              have hrd : Rdr wc g c1 [] 0 := by
                have := hr.out
                rw [List.drop_eq_nil_of_le (by rw [← Hm.out]; exact Nat.le_refl _)] at this
                exact this
              have B3 := B1.trans (hbr.out.mono B1.size)
              clear hr
              go_wp2_with fail
              refine (end_any g c1 [] 0 wc hrd).mono ?_
              rintro e w3 ⟨rfl, rfl⟩
              rw [if_neg (by simp), if_neg (by simp)]
              by_cases hj0 : j = 0
              · have hE0 : (encs (items ns ps)).length = 0 := by
                  have h : items ns ps = [] := List.eq_nil_of_length_eq_zero (by rw [← Hm.out]; exact hj0)
                  rw [h]; rfl
                go_wp2_with fail
                refine (end_any g c1 [] 0 wc hrd).mono ?_
                rintro e w3 ⟨rfl, rfl⟩
                rw [if_neg (by simp), if_neg (by simp)]
                go_wp2
                go_ret
                exact ⟨rfl, B3⟩
              · have hE1 : 0 < (encs (items ns ps)).length := by
                  have h : items ns ps ≠ [] := by intro h; have := congrArg List.length h; rw [← Hm.out] at this; exact hj0 this
                  have := encs_ne h
                  rcases Nat.eq_zero_or_pos (encs (items ns ps)).length with h | h
                  · exact absurd (List.eq_nil_of_length_eq_zero h) this
                  · exact h
                obtain ⟨hcap, hsh⟩ := hbs.out.short ((encs (items ns ps)).length - 1) (by omega)
                rw [← List.dropLast_eq_take] at hsh
                have hEl' : (encs (items ns ps)).dropLast.length ≤ 6000 := by rw [List.length_dropLast]; omega
                have hCut0 : Cut (items ns ps) 0 (encs (items ns ps)).dropLast 0 := .inr ⟨rfl, by rw [← Hm.out]; omega, rfl⟩
                have HC0 := Lib.hid hCut0
                clear hCut0 hrd hbs hx3 hp3 ob5 r2
                go_wp2_with fail
                refine (new_any _ _ c5 wc hsh (by omega)).mono ?_
                rintro e w3 ⟨g2, c2, rfl, r3, hb3, hg3, hc3, _⟩
                have B4 := B3.trans (hb3.mono B3.size)
                have hwg2 : w.heap.size ≤ g2 := Nat.le_trans B3.size hg3
                clear hb3 hsh
                go_wp2_with fail
                go_loopw [12] (fun i wr => ∃ (q : Nat) (l : List UInt8) (n : Nat), q ≤ j ∧ i = .int .i64 q ∧ l.length ≤ 7000 ∧ Hid (Rdr wr g2 c2 l n) ∧ Hid (Below w.heap.size w wr) ∧ Hid (Cut (items ns ps) q l n)) (fun i _ => j - (intOf i).toNat)
                case atStart => exact ⟨0, _, 0, Nat.zero_le _, rfl, by omega, r3, B4, HC0⟩
                case round =>
                  obtain ⟨q, l, n, hq, rfl, hl, hr, hbr, hcu⟩ := hrel
                  by_cases hqj : q < j
                  · have hkx : q < ns.length := by omega
                    have hkp : q < ps.length := by omega
                    have hk50 : q < 50 := by omega
                    obtain ⟨hcu', hl2⟩ := hcu.out.turn HI.out (by rw [← Hm.out]; omega) (by rw [← Hm.out]; exact hqj)
                    have Hcu' := Lib.hid hcu'
                    clear hcu'
                    go_wp2_with fail
                    refine (num_any g2 c2 l n wr hr.out (by omega)).mono ?_
                    rintro e w4 ⟨rfl, r4, hg4⟩
                    go_wp2_with fail
                    refine (pce_any g2 c2 _ _ w4 r4 (by omega)).mono ?_
                    rintro e w5 ⟨rfl, r5, hg5⟩
                    have hbr' : Hid (Below w.heap.size w w5) := (hbr.out.grown hg4 hbr.out.size (fun k hk => by simp at hk; omega)).grown hg5 (Nat.le_trans hbr.out.size hg4.size) (fun k hk => by simp at hk; omega)
                    have hl3 : (rdPiece (rdNum l n).2.1 (rdNum l n).2.2).2.1.length ≤ 7000 := by
                      rcases Hcu'.out with ⟨_, h⟩ | ⟨_, _, h⟩
                      · exact h
                      · rw [h, List.length_dropLast]
                        have h1 := encs_len (its := (items ns ps).drop (q + 1)) (fun it h => HI.out it (List.mem_of_mem_drop h))
                        have h2 : ((items ns ps).drop (q + 1)).length ≤ 50 := by rw [List.length_drop, ← Hm.out]; omega
                        omega
                    clear hg4 hg5 r4 hbr
                    go_wp2
                    go_roundw
                    case rel => exact ⟨q + 1, _, _, by omega, by go_num, hl3, r5, hbr', Hcu'⟩
                    case measure => simp [intOf]; omega
                  · have hqj' : q = j := by omega
                    subst hqj'
                    have hn5 : n = 5 := by
                      rcases hcu.out with ⟨h, _⟩ | ⟨_, h, _⟩
                      · exact h
                      · rw [← Hm.out] at h; omega
                    subst hn5
                    go_upto_region 23 with fail
                    go_cut [118] (fun s wx => s = .bool false ∧ wx = wr)
                    case first =>
                      by_cases c1 : q < ns.length
                      · by_cases c2 : q < ps.length
                        · have c3 : ¬ q < 50 := by have := Hmin.out; omega
                          go_wp2_with fail
                          go_meet
                          case rel => exact ⟨by first | rfl | (simp; omega), rfl⟩
                        · go_wp2_with fail
                          go_meet
                          case rel => exact ⟨by first | rfl | (simp; omega), rfl⟩
                      · go_wp2_with fail
                        go_meet
                        case rel => exact ⟨by first | rfl | (simp; omega), rfl⟩
                    case rest =>
                      obtain ⟨rfl, rfl⟩ := hcut
                      go_wp2_with fail
                      refine (err_any g2 c2 l 5 wc hr.out).mono ?_
                      rintro e w6 ⟨rfl, rfl⟩
                      have B5 := hbr.out
                      go_wp2
                      go_ret
                      exact ⟨rfl, B5⟩
end Go.Proofs.Ytnnimiemmgakcaa
