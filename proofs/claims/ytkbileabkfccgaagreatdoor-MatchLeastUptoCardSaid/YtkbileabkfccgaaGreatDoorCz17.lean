/- MaZd, MaZe, MaZf, merged. -/
import Derived.Test.YtkbileabkfccgaaGreatDoorCz16

/- match: found. -/
namespace Go.Proofs.YtkbileabkfccgaaGreatDoor
open Go.RowKit

theorem nextM_two {bh : List Nat} {n : Nat} (hb : ∀ x ∈ bh, x < 2 ^ n) (s : Nat) : nextM bh s < 2 ^ n := by
  unfold nextM
  have : ∀ (l : List Nat) (a : Nat), a < 2 ^ n → l.foldl (fun n i => n ||| bh.getD i 0) a < 2 ^ n := by
    intro l
    induction l with
    | nil => exact fun a h => h
    | cons i l ih =>
      intro a h
      rw [List.foldl_cons]
      refine ih _ (Nat.or_lt_two_pow h ?_)
      by_cases hi : i < bh.length
      · rw [List.getD_eq_getElem?_getD, List.getElem?_eq_getElem hi]; exact hb _ (List.getElem_mem hi)
      · rw [List.getD_eq_getElem?_getD, List.getElem?_eq_none (by omega)]; exact Nat.two_pow_pos n
  exact this _ _ (Nat.two_pow_pos n)
theorem numO_two {l : List Nat} {s M : Nat} (h : ∀ x ∈ l, x < M) (hs : s < M) : ∀ x ∈ (numO l s).2, x < M := by
  unfold numO
  split
  · exact h
  · split
    · exact h
    · intro x hx
      rw [List.mem_append] at hx
      rcases hx with hx | hx
      · exact h x hx
      · simp at hx; subst hx; exact hs
theorem rowS_two {nx M : Nat} (hn : nx < M) : ∀ (ls : List Lt) (a : List Int × List Nat), (∀ x ∈ a.2, x < M) → ∀ x ∈ (ls.foldl (rowS1 nx) a).2, x < M
  | [], _, h => h
  | L :: ls, a, h => by rw [List.foldl_cons]; exact rowS_two hn ls _ (numO_two h (Nat.lt_of_le_of_lt Nat.and_le_left hn))

theorem mpNew2 (w : World) (o o2 : Obj) : Mp Value.string evN (((w.alloc o).alloc o2).alloc (.map #[] 0)) (w.heap.size + 1 + 1) ([] : List (ByteArray × Nat)) := by
  have := Mp.new ((w.alloc o).alloc o2) Value.string evN
  rwa [World.size_alloc, World.size_alloc] at this
/-- a table that is handed back -/
def FoR (w : World) (t : Tb) (x : Ending) (w' : World) : Prop := ∃ gt, x = .returned (.pointer (some ⟨gt, 0, none⟩)) ∧ TbR w' w'.heap.size gt t ∧ Below w.heap.size w w'

set_option maxRecDepth 100000 in
set_option maxHeartbeats 3200000 in
theorem found_any (g : Nat) (f : Fm) (ends : Nat) (vl : Value) (ls : List Lt) (S0 : Nat → Prop) (w : World) (h : Fr w S0 g f ends) (hl : Lts w w.heap.size vl ls) (hT : Tab w) (hok : FOk f) (hn : 0 < f.bh.length) (h25 : f.bh.length ≤ 25) (hat : ∀ L ∈ ls, L.at_ < 33554432) (hll : ls.length ≤ 100000000) :
    Calls Tryz.prog 30 #[.pointer (some ⟨g, 0, none⟩), vl] w (FoR w (foundT f.bh ends ls)) := by
  have hmm := @run_makeMap Tryz.prog
  obtain ⟨i0, hi, hz0, hz1, hz2⟩ := info_parts infoI64
  obtain ⟨w0, rfl⟩ : ∃ w0 : World, w0 = w := ⟨_, rfl⟩
  obtain ⟨r, HR⟩ : ∃ r, Hid (r = foundT f.bh ends ls) := ⟨_, rfl⟩
  rw [← HR.out]
  obtain ⟨A, cap, rfl⟩ := hl.form
  have HF := Lib.hid h
  have HL := Lib.hid hl
  have HTB := Lib.hid hT
  have hg := h.lt
  clear h hl
  have HB1 := Lib.hid (box3 w0 (.cells #[.int .u64 1] 96) (.cells #[.pointer (some ⟨g, 0, none⟩), .slice A ls.length cap, .slice (some ⟨w0.heap.size, 0, none⟩) 1 1, .slice none 0 0] 106) (.map #[] 0))
  have HMP := Lib.hid (mpNew2 w0 (.cells #[.int .u64 1] 96) (.cells #[.pointer (some ⟨g, 0, none⟩), .slice A ls.length cap, .slice (some ⟨w0.heap.size, 0, none⟩) 1 1, .slice none 0 0] 106))
  have CS := Lib.hid (spots_any 1 (((w0.alloc (.cells #[.int .u64 1] 96)).alloc (.cells #[.pointer (some ⟨g, 0, none⟩), .slice A ls.length cap, .slice (some ⟨w0.heap.size, 0, none⟩) 1 1, .slice none 0 0] 106)).alloc (.map #[] 0)) (by decide) (hT.all HB1.out))
  go_enter Tryz.func30, Tryz.ntmps30
  go_wp2_with fail
  refine CS.out.mono ?_
  rintro e w1 ⟨vk, rfl, hok1, hb1⟩
  have hcv : (convert 107 9 vk).run Tryz.prog w1 = .ok (.string (keyN 1)) w1 := by
    have ho2 : Ow w1 5 0 vk (keyB 1) := by unfold Ow; rw [keyB_cells, keyB_len]; exact own_mono hok1 (Nat.zero_le _)
    obtain ⟨b, hbs, _⟩ := ho2.bs
    exact run_str (P := Tryz.prog) w1 107 9 5 Tryz.underlying107 Tryz.underlying5 Tryz.underlying9 hbs
  have hs1 : w0.heap.size + 1 + 1 + 1 ≤ w1.heap.size := by have := hb1.size; simpa using this
  obtain ⟨w2, hrun, hm2, hg2, hzz⟩ := (HMP.out.all hb1).put keyTx Tryz.underlying109 (keyN 1) 0
  have hput := keysZ_put [] 1 (by decide) (by simp) (by simp)
  have hm3 : Hid (Mp Value.string evN w2 (w0.heap.size + 1 + 1) (keysZ [1] 0)) := by show Mp _ _ _ _ _; exact hput ▸ hm2
  have hk1 : Bk w1 (w0.heap.size + 1) 106 #[.pointer (some ⟨g, 0, none⟩), .slice A ls.length cap, .slice (some ⟨w0.heap.size, 0, none⟩) 1 1, .slice none 0 0] := ((bkNew1 w0 _ _ _).alloc _).all hb1
  have ho1 : w1.ownsRow 0 96 1 (.slice (some ⟨w0.heap.size, 0, none⟩) 1 1) 1 (seC [1]) := own_all (World.ownsRow.alloc (World.ownsRow.alloc (World.ownsRow_lit w0 #[.int .u64 1] 1 (Nat.zero_le _) (by unfold maxLen; omega) rfl) _) _) hb1
  have HN : Hid (NvV w2 (fun k => k < w0.heap.size) (w0.heap.size + 1) (w0.heap.size + 1 + 1) (.pointer (some ⟨g, 0, none⟩)) (.slice A ls.length cap) (.slice (some ⟨w0.heap.size, 0, none⟩) 1 1) (.slice none 0 0) [1]) :=
    ⟨hk1.grown hg2 (by simp), hm3.out, World.ownsRow.kept ho1 hg2 (.inr (by simp [Value.ownBlock] <;> omega)), by simp, by omega, by (intro k hk; simp [Value.ownBlock] at hk; omega), by simp [Value.ownBlock] <;> omega, by simp [Value.ownBlock] <;> omega, by omega⟩
  have HBW : Hid (Below w0.heap.size w0 w2) := (HB1.out.trans (hb1.mono (by simp; omega))).grown hg2 (by omega) (by simp; omega)
  have hrun : (Instr.mapUpdate 109 (.map (some (w0.heap.size + 1 + 1))) (.string (keyN 1)) (.int .i64 0)).run Tryz.prog w1 = .ok () w2 := hrun
  clear hok1 hput hm2 hm3 hk1 ho1 HMP CS HB1 hb1 hg2
  go_wp2_with fail
  go_loopw [7] (fun x wr => ∃ (sets : List Nat) (to : List (List Int)) (vs vt : Value), x = .int .i64 (to.length : Int) ∧ Hid (FI ls (sets, to)) ∧ Hid (∀ x ∈ sets, x < 2 ^ f.bh.length) ∧ Hid (foundM f.bh ls = foundF f.bh ls (33554433 - to.length) (sets, to)) ∧
    Hid (NvV wr (fun k => k < w0.heap.size) (w0.heap.size + 1) (w0.heap.size + 1 + 1) (.pointer (some ⟨g, 0, none⟩)) (.slice A ls.length cap) vs vt sets) ∧ Hid (Xs wr w0.heap.size (fun b => b ≠ w0.heap.size + 1 ∧ b ≠ w0.heap.size + 1 + 1 ∧ vs.ownBlock ≠ some b) vt to) ∧ Hid (Below w0.heap.size w0 wr)) (fun x _ => 33554433 - (intOf x).toNat)
  case atStart => exact ⟨[1], [], _, _, rfl, FI.start ls, fun x hx => by simp at hx; subst hx; exact Nat.one_lt_two_pow (by omega), rfl, HN.out, Xs.nil _ _ _, HBW.out⟩
  case round =>
    obtain ⟨sets, to, vs, vt, rfl, HFI, HTW, HFM, HN, HX, HB⟩ := hrel
    obtain ⟨As, cs, rfl⟩ := own_form HN.out.o
    have hk2 : wr.cell? ⟨w0.heap.size + 1, 2, none⟩ = some (.slice As sets.length cs) := HN.out.k.cell 2
    have hgl := HN.out.k.lt
    have hsl : sets.length ≤ 33554432 := HFI.out.s.len
    have htl : to.length ≤ sets.length := HFI.out.n
    by_cases hlt : to.length < sets.length
    · have hltI : (to.length : Int) < (sets.length : Int) := by omega
      have hto0 : (0 : Int) ≤ to.length := by omega
      obtain ⟨bs, os, hAs, hbs, hcs, hs0⟩ := (Us.own HN.out.o).at hlt
      subst hAs
      have hx2 : sets[to.length] < 2 ^ f.bh.length := HTW.out _ (List.getElem_mem hlt)
      have hx25 : sets[to.length] < 33554432 := pow_25 hx2 h25
      have hb2 : ∀ x ∈ f.bh, x < 2 ^ f.bh.length := by rw [hok.1]; exact hok.2
      have CN := Lib.hid (fnext_any g f ends sets[to.length] S0 wr (HF.out.all HB.out) hx25 (fun i hi => bits_in hx2 hi) (fun x hx => pow_25 (hb2 x hx) h25) (HTB.out.all HB.out))
      have hnx2 : nextM f.bh sets[to.length] < 2 ^ f.bh.length := nextM_two hb2 _
      obtain ⟨nx, HNX⟩ : ∃ x, Hid (x = nextM f.bh sets[to.length]) := ⟨_, Lib.hid rfl⟩
      obtain ⟨x, HXX⟩ : ∃ x, Hid (x = sets[to.length]) := ⟨_, Lib.hid rfl⟩
      have HNX2 : Hid (nx = nextM f.bh (sets.getD to.length 0)) := by show _ = _; rw [HNX.out, List.getD_eq_getElem?_getD, List.getElem?_eq_getElem hlt]; rfl
      rw [← HNX.out] at CN hnx2
      rw [← HXX.out] at CN hs0
      have hbsw : bs < wr.heap.size := hbs
      clear hx2 hx25 HNX HXX
      go_wp2_with fail
      refine CN.out.mono ?_
      rintro e w1 ⟨rfl, hb1⟩
      have HN1 := Lib.hid (HN.out.all hb1)
      have HX1 := Lib.hid (HX.out.all hb1)
      have HB1 := Lib.hid (HB.out.trans (hb1.mono HB.out.size))
      clear CN hb1 HN HX HB hs0
      go_wp2_with (at_make; refine wpList_make_full _ rfl _ _ 82 rfl w0.heap.size 3 i0 (.int .i64 0) 1 Tryz.underlying82 hi hz0 hz1 _ _ _ _ ls.length rfl rfl ?_ ?_ ?_ ?_ ?_ ?_)
      · rfl
      · rfl
      · rw [hz2]; omega
      · unfold maxLen; omega
      · have := HB1.out.size; omega
      intro w3 hown hg3
      have hmc : (madeCells #[Value.int IntKind.i64 0] ls.length).toList = itC ([] ++ List.replicate ls.length 0) := by
        simp only [madeCells, itC]
        simp [Nat.mod_one, List.map_const']
      rw [hmc] at hown
      have HOWN := Lib.hid hown
      have hbs1 : ¬ bs < w0.heap.size := HN1.out.s bs rfl
      have hw1 : w0.heap.size + 1 + 1 < w1.heap.size := HN1.out.m.lt
      have hbsl : bs < w1.heap.size := (HN1.out.o.lt bs rfl).2
      have hs3 : w1.heap.size < w3.heap.size := (hown.lt w1.heap.size rfl).2
      have hne1 : w0.heap.size + 1 ≠ w1.heap.size := by omega
      obtain ⟨S1, HS1⟩ : ∃ S1 : Nat → Prop, Hid (∀ k, S1 k ↔ k < w3.heap.size ∧ k ≠ w0.heap.size + 1 ∧ k ≠ w0.heap.size + 1 + 1 ∧ k ≠ bs) := ⟨_, fun k => Iff.rfl⟩
      obtain ⟨A0, HA0⟩ : ∃ S1 : Nat → Prop, Hid (∀ k, S1 k ↔ k < w1.heap.size ∧ k ≠ w0.heap.size + 1 ∧ k ≠ w0.heap.size + 1 + 1 ∧ k ≠ bs) := ⟨_, fun k => Iff.rfl⟩
      have HN3 : Hid (NvV w3 S1 (w0.heap.size + 1) (w0.heap.size + 1 + 1) (.pointer (some ⟨g, 0, none⟩)) (.slice A ls.length cap) (.slice (some ⟨bs, os, none⟩) sets.length cs) vt sets) :=
        (HN1.out.grown hg3 (by simp) (by simp) (.inr (by simp [Value.ownBlock]))).sset (by rw [HS1.out]; simp) (by rw [HS1.out]; simp) (fun k hk => by rw [HS1.out]; simp [Value.ownBlock] at hk; omega)
      have HX3 : Hid (Xs w3 w0.heap.size A0 vt to) := by
        have h1 : Xs w1 w0.heap.size A0 vt to := HX1.out.amono fun b hb _ hA => (HA0.out b).2 ⟨hb, hA.1, hA.2.1, fun e => hA.2.2 (by rw [e]; rfl)⟩
        exact h1.kp (S := fun k => k < w1.heap.size) ((Kp.refl _ w1).grown hg3 (fun k hk => hk) (by simp)) fun b hb _ _ => hb
      have HB3 : Hid (Below w0.heap.size w0 w3) := HB1.out.grown hg3 HB1.out.size (by simp)
      clear hown hg3 hmc HN1 HX1 HB1
      go_wp2_with fail
      go_loopw [44] (fun i wr => ∃ (k : Nat) (a : List Int × List Nat) (vs : Value), k ≤ ls.length ∧ i = .int .i64 (k : Int) ∧ Hid (a = (ls.take k).foldl (rowS1 nx) ([], sets)) ∧ Hid (NvV wr S1 (w0.heap.size + 1) (w0.heap.size + 1 + 1) (.pointer (some ⟨g, 0, none⟩)) (.slice A ls.length cap) vs vt a.2) ∧
        Hid (wr.ownsRow w0.heap.size 3 1 (.slice (some ⟨w1.heap.size, 0, none⟩) ls.length ls.length) ls.length (itC (a.1 ++ List.replicate (ls.length - k) 0))) ∧ Hid (Xs wr w0.heap.size A0 vt to) ∧ Hid (Below w0.heap.size w0 wr) ∧ w3.heap.size ≤ wr.heap.size) (fun i _ => ls.length - (intOf i).toNat)
      case atStart => exact ⟨0, ([], sets), _, Nat.zero_le _, rfl, rfl, HN3, HOWN, HX3, HB3, Nat.le_refl _⟩
      case round =>
        obtain ⟨k, a, vs, hk, rfl, HAA, HN, HO, HX, HB, hsz3⟩ := hrel
        have hbt : S1 w1.heap.size := (HS1.out _).2 (by omega)
        have hrl : a.1.length = k ∧ SetsOk a.2 := by
          obtain ⟨e1, _, e3⟩ := rowS_ok nx (pow_25 hnx2 h25) (ls.take k) ([], sets) HFI.out.s ⟨rfl, by simp⟩
          rw [← HAA.out] at e1 e3
          refine ⟨?_, e1⟩
          have := e3.1
          simp at this; omega
        by_cases hlt2 : k < ls.length
        · have hkI : (k : Int) < (ls.length : Int) := by omega
          have hk0 : (0 : Int) ≤ k := by omega
          obtain ⟨bl, ol, sl, rfl, hbl, hcl, htx, hl0, hl1⟩ := (HL.out.below HB.out).at hlt2
          obtain ⟨Al, cl, rfl⟩ := htx.form
          have hatk : ls[k].at_ < 33554432 := hat _ (List.getElem_mem hlt2)
          have hstep : Hid ((ls.take (k + 1)).foldl (rowS1 nx) ([], sets) = (a.1 ++ [(numO a.2 (nx &&& ls[k].at_)).1], (numO a.2 (nx &&& ls[k].at_)).2)) := by
            show _ = _
            rw [List.take_succ_eq_append_getElem hlt2, List.foldl_append, ← HAA.out]; rfl
          obtain ⟨c, HCC⟩ : ∃ c, Hid (c = ls[k].at_) := ⟨_, Lib.hid rfl⟩
          have hand := bits_and_u64_nat nx ls[k].at_ (by have := pow_25 hnx2 h25; omega) (by omega)
          rw [← HCC.out] at hand hl0 hstep hatk
          obtain ⟨y, hy⟩ : ∃ y, Hid (y = nx &&& c) := ⟨_, Lib.hid rfl⟩
          have hyl : y < 33554432 := by rw [hy.out]; exact Nat.lt_of_le_of_lt Nat.and_le_left (pow_25 hnx2 h25)
          rw [← hy.out] at hand hstep
          have hblw : bl < wr.heap.size := by have := HB.out.size; omega
          have HWN := Lib.hid (HN.out.all (box1 wr (.cells #[.int .u64 (c : Int), .slice Al ls[k].ts.length cl] 112)))
          have HWB := Lib.hid (HB.out.alloc HB.out.size (.cells #[.int .u64 (c : Int), .slice Al ls[k].ts.length cl] 112))
          have hin : In S1 (wr.alloc (.cells #[.int .u64 (c : Int), .slice Al ls[k].ts.length cl] 112)) := fun j hj => by have := ((HS1.out j).1 hj).1; simp; omega
          have CX := Lib.hid (number_any (w0.heap.size + 1) (w0.heap.size + 1 + 1) _ _ vs vt a.2 y S1 _ HWN.out hin hyl (fun x hx => (hrl.2.2 x hx).1) (HTB.out.all HWB.out) (by have := hrl.2.len; omega))
          obtain ⟨⟨num, st2⟩, HNM⟩ : ∃ q, Hid (q = numO a.2 y) := ⟨_, Lib.hid rfl⟩
          rw [← HNM.out] at CX hstep
          go_wp2_with fail
          refine CX.out.mono ?_
          rintro e w4 ⟨rfl, ⟨vs4, hn4⟩, hk4⟩
          have hO4 := own_kp (World.ownsRow.alloc HO.out (.cells #[.int .u64 (c : Int), .slice Al ls[k].ts.length cl] 112)) hk4 (fun b hb => by simp [Value.ownBlock] at hb; subst hb; exact hbt)
          have hX4 : Xs w4 w0.heap.size A0 vt to := (HX.out.all (box1 wr (.cells #[.int .u64 (c : Int), .slice Al ls[k].ts.length cl] 112))).kp hk4 fun b _ _ hA => (HS1.out b).2 (by have := (HA0.out b).1 hA; omega)
          have hB4 : Below w0.heap.size w0 w4 := HWB.out.trans (hk4.toBelow fun b hb => (HS1.out b).2 (by omega))
          have hlt3 : k < ls.length * 1 := by omega
          have y0 : ∃ u, w4.cell? ⟨w1.heap.size, k, none⟩ = some u := by
            rw [hO4.cellAt k hlt3]
            exact ⟨_, List.getElem?_eq_getElem (by rw [hO4.1]; exact hlt3)⟩
          obtain ⟨u, y0⟩ := y0
          have y1 := hO4.frozenAt k
          have hbw4 : w1.heap.size < w4.heap.size := (hO4.lt w1.heap.size rfl).2
          have HO5 : Hid ((w4.setCell ⟨w1.heap.size, k, none⟩ (.int .i64 num)).ownsRow w0.heap.size 3 1 (.slice (some ⟨w1.heap.size, 0, none⟩) ls.length ls.length) ls.length (itC ((a.1 ++ [num]) ++ List.replicate (ls.length - (k + 1)) 0))) := by
            have h1 := (hO4.stored k (.int .i64 num)).1
            rw [itC_set, show ls.length - k = (ls.length - (k + 1)) + 1 by omega] at h1
            have h2 := fill_set a.1 (ls.length - (k + 1)) num
            rw [hrl.1] at h2
            rw [h2] at h1
            exact h1
          have HN5 : Hid (NvV (w4.setCell ⟨w1.heap.size, k, none⟩ (.int .i64 num)) S1 (w0.heap.size + 1) (w0.heap.size + 1 + 1) (.pointer (some ⟨g, 0, none⟩)) (.slice (some ⟨bl, ol, none⟩) ls.length cap) vs4 vt st2) :=
            hn4.far (p := ⟨w1.heap.size, k, none⟩) _ (by show w0.heap.size + 1 ≠ w1.heap.size; omega) (by show w0.heap.size + 1 + 1 ≠ w1.heap.size; omega) (fun e => hn4.s _ e hbt)
          have HX5 : Hid (Xs (w4.setCell ⟨w1.heap.size, k, none⟩ (.int .i64 num)) w0.heap.size A0 vt to) :=
            hX4.kp (S := A0) ((Kp.refl A0 w4).setCell (p := ⟨w1.heap.size, k, none⟩) (fun e => Nat.lt_irrefl _ ((HA0.out w1.heap.size).1 e).1) _) fun b _ _ hA => hA
          have HB5 : Hid (Below w0.heap.size w0 (w4.setCell ⟨w1.heap.size, k, none⟩ (.int .i64 num))) := hB4.setCell (p := ⟨w1.heap.size, k, none⟩) (by show w0.heap.size ≤ w1.heap.size; omega) _
          have hz5 : w3.heap.size ≤ (w4.setCell ⟨w1.heap.size, k, none⟩ (.int .i64 num)).heap.size := by
            have h1 := hk4.size
            rw [World.size_alloc] at h1
            rw [World.size_setCell]; omega
          clear CX hn4 hk4 hO4 hX4 hB4 HWN HWB HN HO HX HB hin hrl
          go_wp2_with fail
          go_roundw
          case rel => exact ⟨k + 1, (a.1 ++ [num], st2), vs4, by omega, by go_num, hstep.out.symm, HN5.out, HO5.out, HX5.out, HB5.out, hz5⟩
          case measure => simp [intOf]; omega
        · obtain rfl : k = ls.length := by omega
          have hO := HO.out
          rw [Nat.sub_self, List.replicate_zero, List.append_nil] at hO
          have HAR : Hid (a = rowS nx ls sets) := by show _ = _; rw [HAA.out, List.take_of_length_le (Nat.le_refl _)]; rfl
          have hvl : a.1.length = ls.length := hrl.1
          obtain ⟨Av, cv, rfl⟩ := HX.out.form
          have hown3 : ∀ b, (Value.slice Av to.length cv).ownBlock = some b → A0 b := HX.out.own
          have hAS : ∀ b, A0 b → S1 b := fun b hA => (HS1.out b).2 (by have := (HA0.out b).1 hA; omega)
          have k3 : wr.cell? ⟨w0.heap.size + 1, 3, none⟩ = some (.slice Av to.length cv) := HN.out.k.cell 3
          have HX6 : Xs (wr.alloc (.cells #[.slice (some ⟨w1.heap.size, 0, none⟩) ls.length ls.length] 82)) w0.heap.size (fun b => b ≠ w0.heap.size + 1 ∧ b ≠ w0.heap.size + 1 + 1 ∧ vs.ownBlock ≠ some b) (.slice Av to.length cv) to :=
            (HX.out.amono fun b _ _ hA => ⟨((HA0.out b).1 hA).2.1, ((HA0.out b).1 hA).2.2.1, fun e => HN.out.s b e (hAS b hA)⟩).all (box1 wr _)
          obtain ⟨ss, hss, ho6, ha6, hk6⟩ := HX6
          have HO6 := Lib.hid ho6
          have HK6 := Lib.hid hk6
          have HT6 : Hid (RdS (wr.alloc (.cells #[.slice (some ⟨w1.heap.size, 0, none⟩) ls.length ls.length] 82)) (fun b => w0.heap.size ≤ b ∧ (b ≠ w0.heap.size + 1 ∧ b ≠ w0.heap.size + 1 + 1 ∧ vs.ownBlock ≠ some b) ∧ (Value.slice Av to.length cv).ownBlock ≠ some b) (.slice (some ⟨w1.heap.size, 0, none⟩) ls.length ls.length) 1 a.1.length (itC a.1)) := by
            show RdS _ _ _ _ _ _
            rw [hvl]
            refine (RdS.own (World.ownsRow.alloc hO _)).mono fun b hb => ?_
            obtain rfl : w1.heap.size = b := by simpa [Value.ownBlock] using hb
            exact ⟨by omega, ⟨by omega, by omega, fun e => HN.out.s _ e hbt⟩, fun e => Nat.lt_irrefl _ ((HA0.out _).1 (hown3 _ e)).1⟩
          have HRD := Lib.hid (Rd.lit wr 82 1 1 #[.slice (some ⟨w1.heap.size, 0, none⟩) ls.length ls.length] (0, 0) rfl (by omega))
          have hgw : w0.heap.size + 1 < wr.heap.size := HN.out.k.lt
          clear ho6 hk6 hO HO HX
          go_wp2_with (at_builtin; refine wpList_appR _ rfl (.tmp 64) (.tmp 66) 104 82 rfl _ 1 24 Tryz.underlying104 infoIss rfl (by decide) w0.heap.size rfl rfl HO6.out HRD.out ?_ ?_ ?_ ?_ ?_)
          · first | rfl | (intro u hu; simp at hu; subst hu; rfl)
          · unfold maxLen; omega
          · omega
          · have := HB.out.size; simp; omega
          intro v5 w5 ho5 hg5 hat5
          have hbox := box1 wr (.cells #[.slice (some ⟨w1.heap.size, 0, none⟩) ls.length ls.length] 82)
          have hx5 : Xs w5 w0.heap.size (fun b => b ≠ w0.heap.size + 1 ∧ b ≠ w0.heap.size + 1 + 1 ∧ vs.ownBlock ≠ some b) v5 (to ++ [a.1]) :=
            Xs.app ss hss ha6 HK6.out HT6.out ho5 hg5 (by rw [World.size_alloc]; exact hat5) (by
              have hmbl := HN.out.m.lt
              rw [World.size_alloc]
              exact ⟨by omega, by omega, fun e => by have := (HN.out.o.lt _ e).2; omega⟩)
          have hn5 : NvV w5 S1 (w0.heap.size + 1) (w0.heap.size + 1 + 1) (.pointer (some ⟨g, 0, none⟩)) (.slice A ls.length cap) vs (.slice Av to.length cv) a.2 := by
            refine (HN.out.all hbox).grown hg5 (fun e => ?_) (fun e => ?_) ?_
            · exact ((HA0.out _).1 (hown3 _ e.symm)).2.1 rfl
            · exact ((HA0.out _).1 (hown3 _ e.symm)).2.2.1 rfl
            · rcases Option.eq_none_or_eq_some vs.ownBlock with e | ⟨b, e⟩
              · exact .inl e
              · refine .inr fun e2 => ?_
                rw [e] at e2
                exact HN.out.s b e (hAS b (hown3 b e2.symm))
          have hb5 : Below w0.heap.size w0 w5 := (HB.out.trans (hbox.mono HB.out.size)).grown hg5 (Nat.le_trans HB.out.size hbox.size) fun b hb => (HO6.out.lt b hb).1
          have z3 : w5.cell? ⟨w0.heap.size + 1, 3, none⟩ = some (.slice Av to.length cv) := hn5.k.cell 3
          have z3f : w5.frozen? ⟨w0.heap.size + 1, 3, none⟩ = false := hn5.k.frozen 3
          have hgw5 : w0.heap.size + 1 < w5.heap.size := hn5.k.lt
          have HN6 : Hid (NvV (w5.setCell ⟨w0.heap.size + 1, 3, none⟩ v5) (fun k => k < w0.heap.size) (w0.heap.size + 1) (w0.heap.size + 1 + 1) (.pointer (some ⟨g, 0, none⟩)) (.slice A ls.length cap) vs v5 a.2) :=
            (hn5.set3 v5).sset (by omega) (by omega) fun k hk hlt => hn5.s k hk ((HS1.out k).2 (by omega))
          have HX6 : Hid (Xs (w5.setCell ⟨w0.heap.size + 1, 3, none⟩ v5) w0.heap.size (fun b => b ≠ w0.heap.size + 1 ∧ b ≠ w0.heap.size + 1 + 1 ∧ vs.ownBlock ≠ some b) v5 (to ++ [a.1])) :=
            hx5.kp (S := fun b => b ≠ w0.heap.size + 1 ∧ b ≠ w0.heap.size + 1 + 1 ∧ vs.ownBlock ≠ some b) ((Kp.refl _ w5).setCell (p := ⟨w0.heap.size + 1, 3, none⟩) (fun e => e.1 rfl) _) fun b _ _ hA => hA
          have HB6 : Hid (Below w0.heap.size w0 (w5.setCell ⟨w0.heap.size + 1, 3, none⟩ v5)) := hb5.setCell (p := ⟨w0.heap.size + 1, 3, none⟩) (by show w0.heap.size ≤ w0.heap.size + 1; omega) _
          have hst : stepF f.bh ls (sets, to) = (a.2, to ++ [a.1]) := by
            unfold stepF; simp only []; rw [← HNX2.out, ← HAR.out]
          have HFI6 : Hid (FI ls (a.2, to ++ [a.1])) := by show FI _ _; rw [← hst]; exact HFI.out.step hlt fun x hx => pow_25 (hb2 x hx) h25
          have HTW6 : Hid (∀ x ∈ a.2, x < 2 ^ f.bh.length) := by
            show ∀ x ∈ a.2, _
            rw [HAR.out]; exact rowS_two hnx2 ls _ HTW.out
          have HFM6 : Hid (foundM f.bh ls = foundF f.bh ls (33554433 - (to ++ [a.1]).length) (a.2, to ++ [a.1])) := by
            show _ = _
            rw [HFM.out, show 33554433 - to.length = (33554433 - (to ++ [a.1]).length) + 1 by simp; omega, foundF, if_pos hlt, hst]
          have hlen6 : Hid (((to ++ [a.1]).length : Int) = (to.length : Int) + 1) := by show _ = _; simp
          obtain ⟨A5, c5, rfl⟩ := own_form ho5
          clear ho5 hg5 hat5 hx5 hn5 hb5 hst HK6 HT6 HO6 HRD HN HB HFI HTW HFM HAA HAR hss ha6 hbox hrl
          go_wp2_with fail
          go_roundw
          case rel => exact ⟨a.2, to ++ [a.1], vs, _, by rw [hlen6.out], HFI6, HTW6, HFM6, HN6, HX6, HB6⟩
          case measure => simp [intOf]; omega
    · obtain heq : to.length = sets.length := by omega
      have hltI : ¬ ((to.length : Int) < (sets.length : Int)) := by omega
      have hfin : Hid (r = ⟨ends, ls, sets, to⟩) := by
        show _ = _; rw [HR.out, foundT, HFM.out]
        have : ∀ n, foundF f.bh ls n (sets, to) = (sets, to) := by
          intro n; cases n with
          | zero => rfl
          | succ n => rw [foundF, if_neg (by simpa using hlt)]
        rw [this]
      clear HR HFM
      go_wp2
      go_ret
      refine ⟨_, rfl, ?_, HB.out⟩
      rw [hfin.out]
      have hbz := HB.out.size
      obtain ⟨vn, vb, hv⟩ := HF.out.all HB.out
      exact ⟨hgl, g, _, _, _, HN.out.k.cell 0, HN.out.k.cell 1, HN.out.k.cell 2, HN.out.k.cell 3, by omega, hv.k.cell 2, (HL.out.below HB.out).mono hbz, Us.own HN.out.o, HX.out.iss⟩
end Go.Proofs.YtkbileabkfccgaaGreatDoor

/- match: the keys of a map, sorted. -/
namespace Go.Proofs.YtkbileabkfccgaaGreatDoor
open Go.RowKit Go.Shelf Go.Maps Go.Sort

/-- how a value of any kind is read, where only the keys matter -/
def rdAny (_ : Value) : Option (DataW Unit × List MemPlace) := some (.lit (.bool false), [])
/-- a map of ours, as the library's laws have it -/
theorem Mp.owns {ν : Type} {ev : ν → Value} {w : World} {b : Nat} {l : List (ByteArray × ν)} (h : Mp Value.string ev w b l) (hs : ∀ p ∈ l, p.1.size ≤ maxLen) (hl : l.length ≤ maxLen) :
    ∃ D : DataW Unit, w.ownsMap Tryz.prog 9 rdAny b l.length D ∧ (strKeys D).Perm (unS (l.map Prod.fst)) ∧ Maps.size D = l.length := by
  obtain ⟨es, c, h1, h2, h3, h4⟩ := h
  have hlen : es.size = l.length := by have := congrArg List.length h2; simpa using this
  have hk : es.toList.map (·.key) = l.map fun p => Value.string p.1 := by
    have := congrArg (List.map Prod.fst) h2
    simpa [List.map_map, Function.comp_def] using this
  have hrd : ∀ x ∈ es.toList, ∃ p ∈ l, x.key = .string p.1 ∧ WideElems.rd Tryz.prog 9 rdAny x = some (.string p.1.data.toList, .lit (.bool false)) := by
    intro x hx
    have hm : x.key ∈ es.toList.map (·.key) := List.mem_map_of_mem hx
    rw [hk] at hm
    obtain ⟨p, hp, he⟩ := List.mem_map.1 hm
    refine ⟨p, hp, he.symm, ?_⟩
    unfold WideElems.rd
    rw [← he, _root_.Go.WideMaps.keyOf_string_mk Tryz.underlying9 (hs p hp)]
    rfl
  refine ⟨_, ⟨es, c, h1, ⟨by omega, h4, fun x hx => by obtain ⟨p, _, _, hr⟩ := hrd x hx; exact ⟨_, hr⟩⟩, by omega, rfl⟩, ?_, ?_⟩
  · have hp := (WideShapes.sorted_perm (es.toList.map (WideElems.rg Tryz.prog 9 rdAny))).map fun p => strOf p.1
    refine List.Perm.trans hp (List.Perm.of_eq ?_)
    have e1 : ((es.toList.map (WideElems.rg Tryz.prog 9 rdAny)).map fun p => strOf p.1) = es.toList.map fun x => (match x.key with | .string s => s.data.toList | _ => []) := by
      rw [List.map_map]
      refine List.map_congr_left fun x hx => ?_
      obtain ⟨p, _, he, hr⟩ := hrd x hx
      simp only [Function.comp, WideElems.rg, hr, Option.getD_some, strOf, he]
    rw [e1]
    have e2 : (es.toList.map fun x => (match x.key with | .string s => s.data.toList | _ => [])) = (es.toList.map (·.key)).map fun v => (match v with | .string s => s.data.toList | _ => ([] : List UInt8)) := by
      rw [List.map_map]; rfl
    rw [e2, hk]
    simp [unS, List.map_map, Function.comp_def]
  · have := (WideShapes.sorted_perm (es.toList.map (WideElems.rg Tryz.prog 9 rdAny))).length_eq
    simp only [Maps.size]
    rw [this]; simp [hlen]

theorem sortsM (m : Nat) : AnyZ.SortsIn Tryz.prog Tryz.laysSorted_ren Fence.wide m :=
  ⟨fun blk off cap ss W hH hblk hsz => callsIn_wide.2 (Tryz.slices_Sort_string blk off cap ss W hH hblk hsz),
   fun p cap W => callsIn_wide.2 (Tryz.slices_Sort_string_none p cap W)⟩

theorem keys_any (mb : Nat) (w : World) : Calls Tryz.prog 67 #[.map (some mb)] w fun e w' =>
    e = .returned (.func (.func 111) #[] #[.pointer (some ⟨w.heap.size, 0, none⟩)]) ∧ w' = w.alloc (.cells #[.map (some mb)] 114) :=
  (callsIn_wide (n := 5)).1 (AnyZ.keys_in Tryz.laysKeys Fence.wide 5 trivial rfl (some mb) w)

theorem sortedKeys_any {ev : Nat → Value} (l : List (ByteArray × Nat)) (mb Bm : Nat) (w : World) (h : Mp Value.string ev w mb l) (hB : Bm < w.heap.size) (hm : w.cell? ⟨Bm, 0, none⟩ = some (.map (some mb))) (hs : ∀ p ∈ l, p.1.size ≤ maxLen) (hl : l.length ≤ 8000000000000) :
    Calls Tryz.prog 42 #[.func (.func 111) #[] #[.pointer (some ⟨Bm, 0, none⟩)]] w fun e w' =>
      ∃ v, e = .returned v ∧ w'.ownsRow w.heap.size 9 1 v l.length (txC (sortTx (l.map Prod.fst))) ∧ Below w.heap.size w w' := by
  obtain ⟨D, hown, hperm, hsz⟩ := h.owns hs (by unfold maxLen; omega)
  have hseq : SeqGives Fence.wide 2 Tryz.prog 111 #[.pointer (some ⟨Bm, 0, none⟩)] encStr (fun ss => ss.Perm (strKeys D)) (Maps.size D) w :=
    AnyZ.keys_gives (ρ := Tryz.laysKeys_ren) { Tryz.laysKeys with } Fence.wide _ trivial rfl (by omega) Bm mb _ D _ hB hm hown
  have cS := AnyZ.sorted_in Tryz.laysSorted Fence.wide 5 trivial trivial trivial trivial rfl (by omega) (sortsM _) (enters_of Tryz.func73 (by kernel_rfl) rfl) 111 #[.pointer (some ⟨Bm, 0, none⟩)] trivial (enters_of Tryz.func111 (by kernel_rfl) rfl) _ _ (by rw [hsz]; unfold maxLen; omega) (by rw [hsz]; omega) _ hseq
  refine Calls.mono ((callsIn_wide (n := 5)).1 cS) ?_
  rintro e w' ⟨v, ss, rfl, hp, ho, _, hb⟩
  have hp2 := hp.trans hperm
  have hlen : ss.length = l.length := by rw [hp2.length_eq, un_len, List.length_map]
  refine ⟨v, rfl, ?_, hb⟩
  have e1 : (ss.mergeSort fun x y => decide (x ≤ y)) = (unS (l.map Prod.fst)).mergeSort fun x y => decide (x ≤ y) := mergeSort_of_perm hp2
  rw [e1, hlen] at ho
  unfold sortTx
  rw [txC_re]
  exact ho
end Go.Proofs.YtkbileabkfccgaaGreatDoor

/- match: letters, the mathematics. -/
namespace Go.Proofs.YtkbileabkfccgaaGreatDoor
open Go.RowKit

/-- where types may stand: spot i + 1 more for type t -/
def atStep (i : Nat) (m : List (ByteArray × Nat)) (t : ByteArray) : List (ByteArray × Nat) := putA m t ((lookA m t).getD 0 ||| 2 ^ (i + 1))
def atRow (gs : List Gr) (ns : List ByteArray) (m : List (ByteArray × Nat)) (i : Nat) : List (ByteArray × Nat) := (standsM (ns.getD (i + 1) .empty) gs).foldl (atStep i) m
/-- where each type may stand -/
def atM (ns : List ByteArray) (gs : List Gr) : List (ByteArray × Nat) := (List.range (ns.length - 1)).foldl (atRow gs ns) []
/-- letters, one type more -/
def letS (m : List (ByteArray × Nat)) (a : List Lt) (t : ByteArray) : List Lt :=
  if (a.map Lt.at_).contains ((lookA m t).getD 0) then a.modify ((a.map Lt.at_).idxOf ((lookA m t).getD 0)) fun L => ⟨L.at_, L.ts ++ [t]⟩ else a ++ [⟨(lookA m t).getD 0, [t]⟩]
/-- the letters of a frame's names -/
def lettersM (ns : List ByteArray) (gs : List Gr) : List Lt := (sortTx ((atM ns gs).map Prod.fst)).foldl (letS (atM ns gs)) []

/-! ## what is good of them -/
theorem lookA_mem {κ ν : Type} [DecidableEq κ] {l : List (κ × ν)} {k : κ} {v : ν} (h : lookA l k = some v) : (k, v) ∈ l := by
  unfold lookA at h
  obtain ⟨p, hp, rfl⟩ := Option.map_eq_some_iff.1 h
  have h1 := List.mem_of_find?_eq_some hp
  have h2 := List.find?_some hp
  simp at h2
  rw [← h2]; exact h1
theorem putA_mem {κ ν : Type} [DecidableEq κ] {l : List (κ × ν)} {k : κ} {v : ν} {p : κ × ν} (h : p ∈ putA l k v) : p ∈ l ∨ p = (k, v) := by
  unfold putA at h
  split at h
  · obtain ⟨q, hq, rfl⟩ := List.mem_map.1 h
    split
    · exact .inr rfl
    · exact .inl hq
  · rw [List.mem_append] at h
    rcases h with h | h
    · exact .inl h
    · simp at h; exact .inr h
theorem putA_nodup {κ ν : Type} [DecidableEq κ] {l : List (κ × ν)} {k : κ} {v : ν} (h : (l.map Prod.fst).Nodup) : ((putA l k v).map Prod.fst).Nodup := by
  unfold putA
  split
  · have : (Prod.fst ∘ fun p : κ × ν => if p.1 = k then (k, v) else p) = Prod.fst := by
      funext p; simp only [Function.comp]; split
      · rename_i e; exact e.symm
      · rfl
    rw [List.map_map, this]; exact h
  · rename_i hn
    rw [List.map_append, List.nodup_append]
    refine ⟨h, by simp, ?_⟩
    intro a ha b hb
    simp at hb; subst hb
    rintro rfl
    obtain ⟨p, hp, he⟩ := List.mem_map.1 ha
    exact hn (List.any_eq_true.2 ⟨p, hp, by simpa using he⟩)
/-- keys are all different, values below M, types good -/
structure AtOk (M : Nat) (G : ByteArray → Prop) (m : List (ByteArray × Nat)) : Prop where
  n : (m.map Prod.fst).Nodup
  v : ∀ p ∈ m, p.2 < M ∧ G p.1
theorem AtOk.look {M : Nat} {G : ByteArray → Prop} {m : List (ByteArray × Nat)} (h : AtOk M G m) (hM : 0 < M) (t : ByteArray) : (lookA m t).getD 0 < M := by
  cases hl : lookA m t with
  | none => simpa using hM
  | some x => exact (h.v _ (lookA_mem hl)).1
theorem AtOk.step {n i : Nat} {G : ByteArray → Prop} {m : List (ByteArray × Nat)} (h : AtOk (2 ^ n) G m) (hi : i + 1 < n) {t : ByteArray} (ht : G t) : AtOk (2 ^ n) G (atStep i m t) := by
  refine ⟨putA_nodup h.n, fun p hp => ?_⟩
  rcases putA_mem hp with hp | rfl
  · exact h.v p hp
  · exact ⟨Nat.or_lt_two_pow (h.look (Nat.two_pow_pos n) t) (Nat.pow_lt_pow_right (by omega) hi), ht⟩
theorem AtOk.row {n i : Nat} {G : ByteArray → Prop} (hi : i + 1 < n) : ∀ (l : List ByteArray) (m : List (ByteArray × Nat)), (∀ t ∈ l, G t) → AtOk (2 ^ n) G m → AtOk (2 ^ n) G (l.foldl (atStep i) m)
  | [], _, _, h => h
  | t :: l, m, hg, h => AtOk.row hi l _ (fun x hx => hg x (by simp [hx])) (h.step hi (hg t (by simp)))
theorem atM_ok {ns : List ByteArray} {gs : List Gr} {G : ByteArray → Prop} (hg : ∀ n ∈ ns, ∀ t ∈ standsM n gs, G t) : AtOk (2 ^ ns.length) G (atM ns gs) := by
  unfold atM
  have : ∀ (l : List Nat) (m : List (ByteArray × Nat)), (∀ i ∈ l, i + 1 < ns.length) → AtOk (2 ^ ns.length) G m → AtOk (2 ^ ns.length) G (l.foldl (atRow gs ns) m) := by
    intro l
    induction l with
    | nil => exact fun m _ h => h
    | cons i l ih =>
      intro m hl h
      rw [List.foldl_cons]
      have hi := hl i (by simp)
      refine ih _ (fun j hj => hl j (by simp [hj])) (AtOk.row hi _ _ ?_ h)
      rw [List.getD_eq_getElem?_getD, List.getElem?_eq_getElem hi]
      exact hg _ (List.getElem_mem hi)
  exact this _ _ (fun i hi => by have := List.mem_range.1 hi; omega) ⟨by simp, by simp⟩
/-- what letters keep: the sets are all different and below M; their types together are l, in some order -/
structure LtOk (M : Nat) (l : List ByteArray) (a : List Lt) : Prop where
  v : ∀ L ∈ a, L.at_ < M
  p : (a.flatMap Lt.ts).Perm l
  e : ∀ L ∈ a, L.ts ≠ []
theorem modify_flat (t : ByteArray) : ∀ (a : List Lt) (i : Nat), i < a.length → ((a.modify i fun L => ⟨L.at_, L.ts ++ [t]⟩).flatMap Lt.ts).Perm (a.flatMap Lt.ts ++ [t])
  | [], i, h => by simp at h
  | L :: a, 0, _ => by
    rw [List.modify_zero_cons, List.flatMap_cons, List.flatMap_cons, List.append_assoc, List.append_assoc]
    exact List.Perm.append_left _ List.perm_append_comm
  | L :: a, i + 1, h => by
    rw [List.modify_succ_cons, List.flatMap_cons, List.flatMap_cons, List.append_assoc]
    exact List.Perm.append_left _ (modify_flat t a i (by simpa using h))
theorem LtOk.step {M : Nat} {l : List ByteArray} {a : List Lt} {m : List (ByteArray × Nat)} (h : LtOk M l a) {t : ByteArray} (ht : (lookA m t).getD 0 < M) : LtOk M (l ++ [t]) (letS m a t) := by
  unfold letS
  split
  · rename_i hc
    have hi : (a.map Lt.at_).idxOf ((lookA m t).getD 0) < a.length := by
      have := List.idxOf_lt_length_iff.2 (List.contains_iff_mem.1 hc)
      simpa using this
    refine ⟨?_, (modify_flat t a _ hi).trans (h.p.append_right _), ?_⟩
    · intro L hL
      obtain ⟨j, hj, rfl⟩ := List.mem_iff_getElem.1 hL
      have hj' : j < a.length := by simpa using hj
      rw [List.getElem_modify]
      split
      · exact h.v (a[j]'hj') (List.getElem_mem hj')
      · exact h.v (a[j]'hj') (List.getElem_mem hj')
    · intro L hL
      obtain ⟨j, hj, rfl⟩ := List.mem_iff_getElem.1 hL
      rw [List.getElem_modify]
      split
      · simp
      · exact h.e _ (List.getElem_mem _)
  · refine ⟨?_, ?_, ?_⟩
    · intro L hL
      rw [List.mem_append] at hL
      rcases hL with hL | hL
      · exact h.v L hL
      · simp at hL; subst hL; exact ht
    · rw [List.flatMap_append]
      simpa using h.p.append_right [t]
    · intro L hL
      rw [List.mem_append] at hL
      rcases hL with hL | hL
      · exact h.e L hL
      · simp at hL; subst hL; simp
theorem letters_ok (M : Nat) (m : List (ByteArray × Nat)) (hm : ∀ t, (lookA m t).getD 0 < M) : ∀ (ts l : List ByteArray) (a : List Lt), LtOk M l a → LtOk M (l ++ ts) (ts.foldl (letS m) a)
  | [], l, a, h => by simpa using h
  | t :: ts, l, a, h => by
    have := letters_ok M m hm ts (l ++ [t]) (letS m a t) (h.step (hm t))
    rw [List.append_assoc] at this
    exact this
theorem sortTx_perm (l : List ByteArray) : (sortTx l).Perm l := by
  unfold sortTx
  have h := List.mergeSort_perm (unS l) fun x y => decide (x ≤ y)
  have h2 := h.map fun s => (⟨s.toArray⟩ : ByteArray)
  have h3 := re_un l
  unfold reS at h3 ⊢
  rw [h3] at h2
  exact h2
/-- the letters of a frame: sets of its spots; the types all different -/
theorem lettersM_ok {ns : List ByteArray} {gs : List Gr} {G : ByteArray → Prop} (hg : ∀ n ∈ ns, ∀ t ∈ standsM n gs, G t) :
    (∀ L ∈ lettersM ns gs, L.at_ < 2 ^ ns.length) ∧ ((lettersM ns gs).flatMap Lt.ts).Nodup ∧ (lettersM ns gs).length ≤ (atM ns gs).length ∧ ∀ t ∈ (lettersM ns gs).flatMap Lt.ts, G t := by
  have ha := atM_ok hg
  have h := letters_ok (2 ^ ns.length) (atM ns gs) (fun t => ha.look (Nat.two_pow_pos _) t) (sortTx ((atM ns gs).map Prod.fst)) [] [] ⟨by simp, by simp, by simp⟩
  rw [List.nil_append] at h
  have hp : ((lettersM ns gs).flatMap Lt.ts).Perm ((atM ns gs).map Prod.fst) := h.p.trans (sortTx_perm _)
  refine ⟨h.v, hp.nodup_iff.2 ha.n, ?_, fun t ht => ?_⟩
  · have h1 := hp.length_eq
    rw [List.length_map] at h1
    have h2 : ∀ l : List Lt, (∀ L ∈ l, L.ts ≠ []) → l.length ≤ (l.flatMap Lt.ts).length := by
      intro l
      induction l with
      | nil => simp
      | cons L l ih =>
        intro hl
        have := ih fun x hx => hl x (by simp [hx])
        have h3 := List.length_pos_iff.2 (hl L (by simp))
        rw [List.flatMap_cons, List.length_append, List.length_cons]; omega
    have := h2 _ h.e
    show (lettersM ns gs).length ≤ _
    unfold lettersM at h1 ⊢
    omega
  · obtain ⟨p, hpm, rfl⟩ := List.mem_map.1 (hp.mem_iff.1 ht)
    exact (ha.v p hpm).2
/-- a table over such letters has good edges -/
theorem pieces_sub (t : Tb) (i : Nat) (ss : List Int) : ((rawE t i ss).map Ed.t).Sublist (t.ls.flatMap Lt.ts) := by
  have key : ∀ k, k ≤ t.ls.length → ((((List.range t.ls.length).take k).flatMap (pieceE t i ss)).map Ed.t).Sublist ((t.ls.take k).flatMap Lt.ts) := by
    intro k
    induction k with
    | zero => intro _; simp
    | succ k ih =>
      intro hk
      have hlt : k < t.ls.length := by omega
      rw [range_take_succ _ _ hlt, List.flatMap_append, List.map_append, List.take_succ_eq_append_getElem hlt, List.flatMap_append]
      refine (ih (by omega)).append ?_
      simp only [List.flatMap_cons, List.flatMap_nil, List.append_nil]
      unfold pieceE
      split
      · rw [List.getElem?_eq_getElem hlt]
        simp only [List.map_map]
        have : (Ed.t ∘ fun x => (⟨x, ss.getD (toM t i k).toNat 0⟩ : Ed)) = id := rfl
        rw [this, List.map_id]
        exact List.Sublist.refl _
      · simp
  have h := key t.ls.length (Nat.le_refl _)
  rw [List.take_of_length_le (by simp), List.take_of_length_le (Nat.le_refl _)] at h
  exact h
theorem fine_of {t : Tb} (hn : (t.ls.flatMap Lt.ts).Nodup) (hl : (t.ls.flatMap Lt.ts).length ≤ 1000000000000) : t.Fine := fun i _ =>
  ⟨(pieces_sub t i _).nodup hn, by have := (pieces_sub t i (mergeM t)).length_le; rw [List.length_map] at this; omega⟩
end Go.Proofs.YtkbileabkfccgaaGreatDoor
