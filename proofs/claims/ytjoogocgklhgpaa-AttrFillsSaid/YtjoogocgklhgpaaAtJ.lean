/- attr: Compare. -/
import Derived.Test.YtjoogocgklhgpaaAtI
namespace Go.Proofs.Ytjoogocgklhgpaa
open Go.RowKit

theorem infoI : (Try.prog.info? 3).map (fun i => (i.zero, i.size, i.bytes)) = some (some (.int .i64 0), 1, 8) := by kernel_rfl
def ReachA (n : Nat) : Prop := n ≤ 4398046511104
def sgn (l m : List At) (j : Nat) : List Int := [cmpS (gA l j).n (gA m j).n, cmpS (gA l j).v (gA m j).v]
def sgns (l m : List At) (k : Nat) : List Int := (List.range k).flatMap (sgn l m)
def cmpG (l m : List At) : Int := orP (sgns l m (min l.length m.length) ++ [cmpI l.length m.length])
theorem sgns_succ (l m : List At) (k : Nat) : sgns l m (k + 1) = sgns l m k ++ sgn l m k := by unfold sgns; rw [List.range_succ]; simp
theorem sgns_len (l m : List At) (k : Nat) : (sgns l m k).length = 2 * k := by
  induction k with
  | zero => rfl
  | succ k ih => rw [sgns_succ, List.length_append, ih]; simp [sgn]; omega
theorem inC64_app (l m : List Int) : inC64 (l ++ m) = inC64 l ++ inC64 m := by simp [inC64]
theorem inC64_len (l : List Int) : (inC64 l).length = l.length := by simp [inC64]

set_option maxRecDepth 100000 in
set_option maxHeartbeats 4000000 in
theorem compare_a (va vb : Value) (l m : List At) (B : Nat) (w : World) (hl : Ats w B va l) (hm : Ats w B vb m) (hB : B ≤ w.heap.size) (hr : ReachA l.length) (hr2 : ReachA m.length) (hlm : m.length < l.length) :
    Calls Try.prog 27 #[va, vb] w fun e w' => e = .returned (.int .i64 (cmpG l m)) ∧ Below w.heap.size w w' := by
  obtain ⟨Al, cl, rfl⟩ := hl.form
  obtain ⟨Am, cm, rfl⟩ := hm.form
  unfold ReachA at hr hr2
  have hnl : m.length ≤ l.length := by omega
  have hnm : m.length ≤ m.length := by omega
  have hn : Hid (m.length = min l.length m.length) := by show _ = _; omega
  go_enter Try.func27, Try.ntmps27
  go_wp2
  go_loopg [5, 12] m.length (fun g s5 s12 wr => ∃ k : Nat, k ≤ m.length ∧ g = m.length - k ∧ s12 = .int .i64 k ∧ Hid (wr.ownsRow w.heap.size 3 1 s5 (2 * k) (inC64 (sgns l m k))) ∧ Below w.heap.size w wr)
  case atStart => exact ⟨0, Nat.zero_le _, by omega, rfl, World.ownsRow_nil w _ _ 1, Below.refl _ _⟩
  case round =>
    obtain ⟨k, hk, hg, rfl, ho, hb⟩ := hrel
    have HG := Lib.hid hg
    clear hg
    have hsz := hb.size
    by_cases hlt : k < m.length
    · obtain ⟨bl, offl, rfl, hblB, hcll, hl0, hl1⟩ := (hl.below (hb.mono hB)).at (k := k) (by omega)
      obtain ⟨bm, offm, rfl, hbmB, hcmm, hm0, hm1⟩ := (hm.below (hb.mono hB)).at (k := k) (by omega)
      have hbl : bl < wr.heap.size := by omega
      have hbm : bm < wr.heap.size := by omega
      have e1 : Hid (sgn l m k = [cmpS l[k].n m[k].n, cmpS l[k].v m[k].v]) := by show _ = _; unfold sgn; rw [gA_get l k (by omega), gA_get m k (by omega)]
      have hi1 : (k : Int) < (l.length : Int) := by omega
      have hi2 : (k : Int) < (m.length : Int) := by omega
      have hi0 : (0 : Int) ≤ (k : Int) := by omega
      have hne1 : some bl ≠ u5.ownBlock := fun h => by have := (ho.out.lt bl h.symm).1; omega
      have hne2 : some bm ≠ u5.ownBlock := fun h => by have := (ho.out.lt bm h.symm).1; omega
      have o1 := Lib.hid ((World.ownsRow.alloc (w := wr.drew) ho.out (.cells #[.int .i64 (cmpS l[k].n m[k].n), .int .i64 (cmpS l[k].v m[k].v)] 3)))
      generalize l[k].n = ln at *
      generalize l[k].v = lv at *
      generalize m[k].n = mn at *
      generalize m[k].v = mv at *
      have hl0' : wr.drew.cell? ⟨bl, offl + k * 2, none⟩ = some (.string ln) := hl0
      have hl1' : wr.drew.cell? ⟨bl, offl + k * 2 + 1, none⟩ = some (.string lv) := hl1
      have hm0' : wr.drew.cell? ⟨bm, offm + k * 2, none⟩ = some (.string mn) := hm0
      have hm1' : wr.drew.cell? ⟨bm, offm + k * 2 + 1, none⟩ = some (.string mv) := hm1
      have hl0a : (wr.alloc (.cells #[.int .i64 (cmpS ln mn), .int .i64 (cmpS lv mv)] 3)).drew.cell? ⟨bl, offl + k * 2, none⟩ = some (.string ln) := by go_simp
      have hl1a : (wr.alloc (.cells #[.int .i64 (cmpS ln mn), .int .i64 (cmpS lv mv)] 3)).drew.cell? ⟨bl, offl + k * 2 + 1, none⟩ = some (.string lv) := by go_simp
      have hm0a : (wr.alloc (.cells #[.int .i64 (cmpS ln mn), .int .i64 (cmpS lv mv)] 3)).drew.cell? ⟨bm, offm + k * 2, none⟩ = some (.string mn) := by go_simp
      have hm1a : (wr.alloc (.cells #[.int .i64 (cmpS ln mn), .int .i64 (cmpS lv mv)] 3)).drew.cell? ⟨bm, offm + k * 2 + 1, none⟩ = some (.string mv) := by go_simp
      go_wp2_with fail
      go_region_held3 (fun w' => w'.cell? ⟨bl, offl + k * 2, none⟩ = some (.string ln) ∧ w'.cell? ⟨bl, offl + k * 2 + 1, none⟩ = some (.string lv) ∧ w'.cell? ⟨bm, offm + k * 2, none⟩ = some (.string mn) ∧ w'.cell? ⟨bm, offm + k * 2 + 1, none⟩ = some (.string mv))
        (first
          | exact ⟨hl0', hl1', hm0', hm1'⟩
          | exact ⟨hl0a, hl1a, hm0a, hm1a⟩
          | exact ⟨(hg3.cell_far ⟨bl, offl + k * 2, none⟩ (by simp; omega) hne1).trans hl0a, (hg3.cell_far ⟨bl, offl + k * 2 + 1, none⟩ (by simp; omega) hne1).trans hl1a, (hg3.cell_far ⟨bm, offm + k * 2, none⟩ (by simp; omega) hne2).trans hm0a, (hg3.cell_far ⟨bm, offm + k * 2 + 1, none⟩ (by simp; omega) hne2).trans hm1a⟩)
        (first
          | (go_at_call 41; refine (cmpS_any _ _ _).mono ?_; rintro e w' ⟨rfl, rfl⟩)
          | (refine step_appR _ (by rfl) (.tmp 15) (.tmp 38) 57 3 (by rfl) _ 1 8 Try.underlying57 infoI (by rfl) (by decide) w.heap.size (by rfl) (by rfl) o1.out (Rd.lit wr.drew 3 1 2 #[.int .i64 (cmpS ln mn), .int .i64 (cmpS lv mv)] (0, 0) rfl (by omega)) (by simp [Value.oneCell']) (by unfold maxLen; omega) (by omega) (by simp; omega) ?_; intro v' w3 hown' hg3 hat))
      have hb4 : Below w.heap.size w w3 := ((hb.drew).alloc hsz _).grown hg3 (by simp; omega) fun g hg => (ho.out.lt g hg).1
      have hown2 : Hid (w3.ownsRow w.heap.size 3 1 v' (2 * (k + 1)) (inC64 (sgns l m (k + 1)))) := by
        show World.ownsRow _ _ _ _ _ _ _
        rw [sgns_succ, inC64_app, e1.out, show 2 * (k + 1) = 2 * k + 2 by omega]
        exact hown'
      clear hg3 hat hown' o1 hl0a hl1a hm0a hm1a hl0' hl1' hm0' hm1'
      go_wp2
      go_roundg (m.length - (k + 1))
      case measure => have := HG.out; omega
      case rel => exact ⟨k + 1, by omega, rfl, by go_num, hown2, hb4⟩
    · have e : k = m.length := by omega
      subst e
      have hlen : (sgns l m m.length ++ [cmpI l.length m.length]).length = 2 * m.length + 1 := by rw [List.length_append, sgns_len]; rfl
      have HLN := Lib.hid hlen
      have hf : Hid (cmpG l m = orP (sgns l m m.length ++ [cmpI l.length m.length])) := by show _ = _; unfold cmpG; rw [← hn.out]
      clear hlen
      go_wp2_with fail
      refine (cmpI_any _ _ _).mono ?_
      rintro e w1 ⟨rfl, rfl⟩
      go_wp2_with (at_builtin; refine wpList_appR _ rfl (.tmp 41) (.tmp 47) 57 3 rfl _ 1 8 Try.underlying57 infoI rfl (by decide) w.heap.size rfl rfl (World.ownsRow.alloc ho.out _) (Rd.lit wr 3 1 1 #[.int .i64 (cmpI l.length m.length)] (0, 0) rfl (by omega)) ?_ ?_ ?_ ?_ ?_)
      · exact rfl
      · unfold maxLen; omega
      · omega
      · simp; omega
      intro v' w3 hown' hg3 hat
      have hb4 : Below w.heap.size w w3 := (hb.alloc hsz _).grown hg3 (by simp; omega) fun g hg => (ho.out.lt g hg).1
      have hrd : Hid (Rd w3 w3.heap.size v' 1 (sgns l m m.length ++ [cmpI l.length m.length]).length (inC64 (sgns l m m.length ++ [cmpI l.length m.length]))) := by
        show Rd _ _ _ _ _ _
        rw [HLN.out, inC64_app]
        exact Rd.own (e := 3) (base := w.heap.size) hown'
      clear hg3 hat hown' ho
      go_wp2_with fail
      refine (orI_any _ _ _ w3 hrd.out).mono ?_
      rintro e w4 ⟨rfl, rfl⟩
      go_wp2
      go_ret
      exact ⟨ret_int hf.out.symm, hb4⟩

set_option maxRecDepth 100000 in
set_option maxHeartbeats 4000000 in
theorem compare_b (va vb : Value) (l m : List At) (B : Nat) (w : World) (hl : Ats w B va l) (hm : Ats w B vb m) (hB : B ≤ w.heap.size) (hr : ReachA l.length) (hr2 : ReachA m.length) (hlm : ¬ m.length < l.length) :
    Calls Try.prog 27 #[va, vb] w fun e w' => e = .returned (.int .i64 (cmpG l m)) ∧ Below w.heap.size w w' := by
  obtain ⟨Al, cl, rfl⟩ := hl.form
  obtain ⟨Am, cm, rfl⟩ := hm.form
  unfold ReachA at hr hr2
  have hnl : l.length ≤ l.length := by omega
  have hnm : l.length ≤ m.length := by omega
  have hn : Hid (l.length = min l.length m.length) := by show _ = _; omega
  go_enter Try.func27, Try.ntmps27
  go_wp2
  go_loopg [5, 12] l.length (fun g s5 s12 wr => ∃ k : Nat, k ≤ l.length ∧ g = l.length - k ∧ s12 = .int .i64 k ∧ Hid (wr.ownsRow w.heap.size 3 1 s5 (2 * k) (inC64 (sgns l m k))) ∧ Below w.heap.size w wr)
  case atStart => exact ⟨0, Nat.zero_le _, by omega, rfl, World.ownsRow_nil w _ _ 1, Below.refl _ _⟩
  case round =>
    obtain ⟨k, hk, hg, rfl, ho, hb⟩ := hrel
    have HG := Lib.hid hg
    clear hg
    have hsz := hb.size
    by_cases hlt : k < l.length
    · obtain ⟨bl, offl, rfl, hblB, hcll, hl0, hl1⟩ := (hl.below (hb.mono hB)).at (k := k) (by omega)
      obtain ⟨bm, offm, rfl, hbmB, hcmm, hm0, hm1⟩ := (hm.below (hb.mono hB)).at (k := k) (by omega)
      have hbl : bl < wr.heap.size := by omega
      have hbm : bm < wr.heap.size := by omega
      have e1 : Hid (sgn l m k = [cmpS l[k].n m[k].n, cmpS l[k].v m[k].v]) := by show _ = _; unfold sgn; rw [gA_get l k (by omega), gA_get m k (by omega)]
      have hi1 : (k : Int) < (l.length : Int) := by omega
      have hi2 : (k : Int) < (m.length : Int) := by omega
      have hi0 : (0 : Int) ≤ (k : Int) := by omega
      have hne1 : some bl ≠ u5.ownBlock := fun h => by have := (ho.out.lt bl h.symm).1; omega
      have hne2 : some bm ≠ u5.ownBlock := fun h => by have := (ho.out.lt bm h.symm).1; omega
      have o1 := Lib.hid ((World.ownsRow.alloc (w := wr.drew) ho.out (.cells #[.int .i64 (cmpS l[k].n m[k].n), .int .i64 (cmpS l[k].v m[k].v)] 3)))
      generalize l[k].n = ln at *
      generalize l[k].v = lv at *
      generalize m[k].n = mn at *
      generalize m[k].v = mv at *
      have hl0' : wr.drew.cell? ⟨bl, offl + k * 2, none⟩ = some (.string ln) := hl0
      have hl1' : wr.drew.cell? ⟨bl, offl + k * 2 + 1, none⟩ = some (.string lv) := hl1
      have hm0' : wr.drew.cell? ⟨bm, offm + k * 2, none⟩ = some (.string mn) := hm0
      have hm1' : wr.drew.cell? ⟨bm, offm + k * 2 + 1, none⟩ = some (.string mv) := hm1
      have hl0a : (wr.alloc (.cells #[.int .i64 (cmpS ln mn), .int .i64 (cmpS lv mv)] 3)).drew.cell? ⟨bl, offl + k * 2, none⟩ = some (.string ln) := by go_simp
      have hl1a : (wr.alloc (.cells #[.int .i64 (cmpS ln mn), .int .i64 (cmpS lv mv)] 3)).drew.cell? ⟨bl, offl + k * 2 + 1, none⟩ = some (.string lv) := by go_simp
      have hm0a : (wr.alloc (.cells #[.int .i64 (cmpS ln mn), .int .i64 (cmpS lv mv)] 3)).drew.cell? ⟨bm, offm + k * 2, none⟩ = some (.string mn) := by go_simp
      have hm1a : (wr.alloc (.cells #[.int .i64 (cmpS ln mn), .int .i64 (cmpS lv mv)] 3)).drew.cell? ⟨bm, offm + k * 2 + 1, none⟩ = some (.string mv) := by go_simp
      go_wp2_with fail
      go_region_held3 (fun w' => w'.cell? ⟨bl, offl + k * 2, none⟩ = some (.string ln) ∧ w'.cell? ⟨bl, offl + k * 2 + 1, none⟩ = some (.string lv) ∧ w'.cell? ⟨bm, offm + k * 2, none⟩ = some (.string mn) ∧ w'.cell? ⟨bm, offm + k * 2 + 1, none⟩ = some (.string mv))
        (first
          | exact ⟨hl0', hl1', hm0', hm1'⟩
          | exact ⟨hl0a, hl1a, hm0a, hm1a⟩
          | exact ⟨(hg3.cell_far ⟨bl, offl + k * 2, none⟩ (by simp; omega) hne1).trans hl0a, (hg3.cell_far ⟨bl, offl + k * 2 + 1, none⟩ (by simp; omega) hne1).trans hl1a, (hg3.cell_far ⟨bm, offm + k * 2, none⟩ (by simp; omega) hne2).trans hm0a, (hg3.cell_far ⟨bm, offm + k * 2 + 1, none⟩ (by simp; omega) hne2).trans hm1a⟩)
        (first
          | (go_at_call 41; refine (cmpS_any _ _ _).mono ?_; rintro e w' ⟨rfl, rfl⟩)
          | (refine step_appR _ (by rfl) (.tmp 15) (.tmp 38) 57 3 (by rfl) _ 1 8 Try.underlying57 infoI (by rfl) (by decide) w.heap.size (by rfl) (by rfl) o1.out (Rd.lit wr.drew 3 1 2 #[.int .i64 (cmpS ln mn), .int .i64 (cmpS lv mv)] (0, 0) rfl (by omega)) (by simp [Value.oneCell']) (by unfold maxLen; omega) (by omega) (by simp; omega) ?_; intro v' w3 hown' hg3 hat))
      have hb4 : Below w.heap.size w w3 := ((hb.drew).alloc hsz _).grown hg3 (by simp; omega) fun g hg => (ho.out.lt g hg).1
      have hown2 : Hid (w3.ownsRow w.heap.size 3 1 v' (2 * (k + 1)) (inC64 (sgns l m (k + 1)))) := by
        show World.ownsRow _ _ _ _ _ _ _
        rw [sgns_succ, inC64_app, e1.out, show 2 * (k + 1) = 2 * k + 2 by omega]
        exact hown'
      clear hg3 hat hown' o1 hl0a hl1a hm0a hm1a hl0' hl1' hm0' hm1'
      go_wp2
      go_roundg (l.length - (k + 1))
      case measure => have := HG.out; omega
      case rel => exact ⟨k + 1, by omega, rfl, by go_num, hown2, hb4⟩
    · have e : k = l.length := by omega
      subst e
      have hlen : (sgns l m l.length ++ [cmpI l.length m.length]).length = 2 * l.length + 1 := by rw [List.length_append, sgns_len]; rfl
      have HLN := Lib.hid hlen
      have hf : Hid (cmpG l m = orP (sgns l m l.length ++ [cmpI l.length m.length])) := by show _ = _; unfold cmpG; rw [← hn.out]
      clear hlen
      go_wp2_with fail
      refine (cmpI_any _ _ _).mono ?_
      rintro e w1 ⟨rfl, rfl⟩
      go_wp2_with (at_builtin; refine wpList_appR _ rfl (.tmp 41) (.tmp 47) 57 3 rfl _ 1 8 Try.underlying57 infoI rfl (by decide) w.heap.size rfl rfl (World.ownsRow.alloc ho.out _) (Rd.lit wr 3 1 1 #[.int .i64 (cmpI l.length m.length)] (0, 0) rfl (by omega)) ?_ ?_ ?_ ?_ ?_)
      · exact rfl
      · unfold maxLen; omega
      · omega
      · simp; omega
      intro v' w3 hown' hg3 hat
      have hb4 : Below w.heap.size w w3 := (hb.alloc hsz _).grown hg3 (by simp; omega) fun g hg => (ho.out.lt g hg).1
      have hrd : Hid (Rd w3 w3.heap.size v' 1 (sgns l m l.length ++ [cmpI l.length m.length]).length (inC64 (sgns l m l.length ++ [cmpI l.length m.length]))) := by
        show Rd _ _ _ _ _ _
        rw [HLN.out, inC64_app]
        exact Rd.own (e := 3) (base := w.heap.size) hown'
      clear hg3 hat hown' ho
      go_wp2_with fail
      refine (orI_any _ _ _ w3 hrd.out).mono ?_
      rintro e w4 ⟨rfl, rfl⟩
      go_wp2
      go_ret
      exact ⟨ret_int hf.out.symm, hb4⟩

theorem compare_any (va vb : Value) (l m : List At) (B : Nat) (w : World) (hl : Ats w B va l) (hm : Ats w B vb m) (hB : B ≤ w.heap.size) (hr : ReachA l.length) (hr2 : ReachA m.length) :
    Calls Try.prog 27 #[va, vb] w fun e w' => e = .returned (.int .i64 (cmpG l m)) ∧ Below w.heap.size w w' := by
  by_cases h : m.length < l.length
  · exact compare_a va vb l m B w hl hm hB hr hr2 h
  · exact compare_b va vb l m B w hl hm hB hr hr2 h
end Go.Proofs.Ytjoogocgklhgpaa
