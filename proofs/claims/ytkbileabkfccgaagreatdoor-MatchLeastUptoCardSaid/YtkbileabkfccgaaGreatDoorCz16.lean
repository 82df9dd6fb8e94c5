/- MaY, MaZ, MaZa, MaZb, MaZc, merged. -/
import Derived.Test.YtkbileabkfccgaaGreatDoorCz15

/- match: what a name stands for. -/
namespace Go.Proofs.YtkbileabkfccgaaGreatDoor
open Go.RowKit

/-- what name n stands for -/
def standsM (n : ByteArray) (gs : List Gr) : List ByteArray := match gs.find? fun g => decide (g.n = n) with | some g => g.ts | none => [n]

set_option maxRecDepth 100000 in
theorem isName_any (n : ByteArray) (g : Gr) (s : Value) (p : Addr) (w : World) (hp : w.cell? p = some (.string n)) (hpb : p.block < w.heap.size) :
    Calls Tryz.prog 110 #[grV g s, .pointer (some p)] w (RetB (decide (g.n = n)) w) := by
  obtain ⟨gn, ts⟩ := g
  have h2 := hpb
  unfold grV
  by_cases h : gn = n
  · subst h
    have he : (gn.toList == gn.toList) = true := by simp
    go_enter Tryz.func110, Tryz.ntmps110
    go_wp2
    go_ret
    exact ⟨by simp, box1 w _⟩
  · have he : (gn.toList == n.toList) = false := (neS_iff _ _).2 h
    go_enter Tryz.func110, Tryz.ntmps110
    go_wp2
    go_ret
    exact ⟨by simp [h], box1 w _⟩
theorem entIsN : Enters Tryz.prog 110 := enters Tryz.func110 (by kernel_rfl) (by kernel_rfl)
theorem stands_idx (n : ByteArray) (gs : List Gr) : (idx (fun g => decide (g.n = n)) gs = -1 ∧ standsM n gs = [n]) ∨ ∃ (k : Nat) (hk : k < gs.length), idx (fun g => decide (g.n = n)) gs = (k : Int) ∧ standsM n gs = gs[k].ts := by
  unfold idx standsM
  by_cases h : gs.any (fun g => decide (g.n = n)) = true
  · have hk : gs.findIdx (fun g => decide (g.n = n)) < gs.length := by
      rw [List.any_eq_true] at h; obtain ⟨x, hx, hp⟩ := h
      exact List.findIdx_lt_length_of_exists ⟨x, hx, hp⟩
    refine .inr ⟨_, hk, by rw [if_pos h], ?_⟩
    have hf : gs.find? (fun g => decide (g.n = n)) = some gs[gs.findIdx fun g => decide (g.n = n)] := by
      rw [List.find?_eq_some_iff_getElem]
      exact ⟨List.findIdx_getElem (w := hk), _, hk, rfl, fun j hj => by simpa using List.not_of_lt_findIdx hj⟩
    rw [hf]
  · refine .inl ⟨by rw [if_neg h], ?_⟩
    have hf : gs.find? (fun g => decide (g.n = n)) = none := by
      rw [List.find?_eq_none]; intro x hx hp
      exact h (List.any_eq_true.2 ⟨x, hx, hp⟩)
    rw [hf]

/-- texts that are handed back; nothing old has turned -/
def MakesTx (w : World) (l : List ByteArray) (x : Ending) (w' : World) : Prop := ∃ v, x = .returned v ∧ Tx w' w'.heap.size v l ∧ Below w.heap.size w w'

set_option maxRecDepth 100000 in
set_option maxHeartbeats 800000 in
theorem stands_any (n : ByteArray) (vg : Value) (gs : List Gr) (B : Nat) (w : World) (hg : Grs w B vg gs) (hB : B ≤ w.heap.size) :
    Calls Tryz.prog 66 #[.string n, vg] w (MakesTx w (standsM n gs)) := by
  have hb1 := box1 w (.cells #[.string n] 9)
  have HB1 := Lib.hid hb1
  have C := Lib.hid (idxGr_any (fun g => decide (g.n = n)) 110 #[.pointer (some ⟨w.heap.size, 0, none⟩)] vg gs B (w.alloc (.cells #[.string n] 9)) (hg.below (hb1.mono hB)) (by simp; omega)
    ⟨entIsN, fun g _ s w' hb _ => by
      rw [two_args]
      have hz := hb.size
      simp at hz
      exact isName_any n g s ⟨w.heap.size, 0, none⟩ w' ((hb.cell (p := ⟨w.heap.size, 0, none⟩) (by simp)).trans ((Bk.new w 9 #[.string n]).cell 0)) (by show w.heap.size < _; omega)⟩)
  have HG := Lib.hid hg
  obtain ⟨A, cap, rfl⟩ := hg.form
  obtain ⟨w0, rfl⟩ : ∃ w0 : World, w0 = w := ⟨_, rfl⟩
  clear hg hb1
  rcases stands_idx n gs with ⟨h1, h2⟩ | ⟨k, hk, h1, h2⟩
  · rw [h1] at C
    rw [h2]
    clear h1 h2
    go_enter Tryz.func66, Tryz.ntmps66
    go_wp2_with fail
    refine C.out.mono ?_
    rintro e w1 ⟨rfl, hb⟩
    have x0 : w1.cell? ⟨w0.heap.size, 0, none⟩ = some (.string n) := (hb.cell (p := ⟨w0.heap.size, 0, none⟩) (by simp)).trans ((Bk.new w0 9 #[.string n]).cell 0)
    have hlt : w0.heap.size < w1.heap.size := by have := hb.size; simp at this; omega
    have HB := Lib.hid (HB1.out.trans (hb.mono (by simp)))
    clear C hb
    go_wp2
    go_ret
    refine ⟨_, rfl, ?_, HB.out.alloc (by omega) _⟩
    have := Rd.lit w1 9 1 1 #[.string n] (0, 0) rfl (by omega)
    refine Rd.mono this (by simp)
  · rw [h1] at C
    rw [h2]
    clear h1 h2
    have hkI : (k : Int) < (gs.length : Int) := by omega
    have hk0 : (0 : Int) ≤ k := by omega
    have hkn : ¬ ((k : Int) < 0) := by omega
    obtain ⟨b, off, s, rfl, hb, hcap, htx, hn, hs⟩ := HG.out.at hk
    go_enter Tryz.func66, Tryz.ntmps66
    go_wp2_with fail
    refine C.out.mono ?_
    rintro e w1 ⟨rfl, hb1⟩
    have HB := Lib.hid (HB1.out.trans (hb1.mono (by simp)))
    have x0 : w1.cell? ⟨b, off + k * 2 + 1, none⟩ = some s := (HB.out.cell (p := ⟨b, off + k * 2 + 1, none⟩) (by show b < _; omega)).trans hs
    have hz := HB.out.size
    have HT := Lib.hid (htx.below (HB.out.mono hB))
    have hbw : b < w1.heap.size := by omega
    obtain ⟨A2, c2, rfl⟩ := htx.form
    clear C hb1 htx hs hn
    go_wp2
    go_ret
    exact ⟨_, rfl, HT.out.mono (by omega), HB.out⟩
end Go.Proofs.YtkbileabkfccgaaGreatDoor

/- match: number, the number of a set in a table under construction. -/
namespace Go.Proofs.YtkbileabkfccgaaGreatDoor
open Go.RowKit

/-! ## keys -/
def keyB (s : Nat) : List UInt8 := (bitsN s).map UInt8.ofNat
def keyN (s : Nat) : ByteArray := ⟨(keyB s).toArray⟩
theorem keyB_cells (s : Nat) : cellsB (keyB s) = byC (bitsN s) := by
  unfold cellsB keyB byC
  rw [List.map_map]
  refine List.map_congr_left fun i hi => ?_
  have := bits_lt hi
  simp only [Function.comp, UInt8.toNat_ofNat']
  congr 1; omega
theorem keyB_len (s : Nat) : (keyB s).length = (bitsN s).length := by simp [keyB]
theorem keyN_inj {s t : Nat} (hs : s < 33554432) (ht : t < 33554432) (h : keyN s = keyN t) : s = t := by
  have h1 : keyB s = keyB t := by
    unfold keyN at h
    simpa using h
  have h2 : bitsN s = bitsN t := by
    have h3 : byC (bitsN s) = byC (bitsN t) := by rw [← keyB_cells, ← keyB_cells, h1]
    have h4 : ∀ l m : List Nat, byC l = byC m → l = m := by
      intro l
      induction l with
      | nil => intro m hm; cases m with
        | nil => rfl
        | cons _ _ => simp [byC] at hm
      | cons a l ih => intro m hm; cases m with
        | nil => simp [byC] at hm
        | cons b m =>
          simp only [byC, List.map_cons, List.cons.injEq, Value.int.injEq, true_and] at hm
          rw [ih m hm.2, show a = b by omega]
    exact h4 _ _ h3
  refine Nat.eq_of_testBit_eq fun i => ?_
  by_cases hi : i < 25
  · have e1 := @bits_mem s i
    have e2 := @bits_mem t i
    rw [h2] at e1
    have : s.testBit i = true ↔ t.testBit i = true := by
      constructor
      · intro h; exact (e2.1 (e1.2 ⟨hi, h⟩)).2
      · intro h; exact (e1.1 (e2.2 ⟨hi, h⟩)).2
    rw [Bool.eq_iff_iff]; exact this
  · have b1 : s < 2 ^ i := Nat.lt_of_lt_of_le hs (by have := Nat.pow_le_pow_right (n := 2) (by omega) (show 25 ≤ i by omega); omega)
    have b2 : t < 2 ^ i := Nat.lt_of_lt_of_le ht (by have := Nat.pow_le_pow_right (n := 2) (by omega) (show 25 ≤ i by omega); omega)
    rw [Nat.testBit_lt_two_pow b1, Nat.testBit_lt_two_pow b2]

/-- the keys of sets, with their numbers -/
def keysZ (l : List Nat) (n : Nat) : List (ByteArray × Nat) := (l.map keyN).zipIdx n
theorem keysZ_look : ∀ (l : List Nat) (s n : Nat), s < 33554432 → (∀ x ∈ l, x < 33554432) → lookA (keysZ l n) (keyN s) = if s ∈ l then some (n + l.idxOf s) else none
  | [], _, _, _, _ => rfl
  | x :: l, s, n, hs, hl => by
    have ih := keysZ_look l s (n + 1) hs (fun y hy => hl y (by simp [hy]))
    unfold keysZ at ih ⊢
    rw [List.map_cons, List.zipIdx_cons]
    by_cases h : x = s
    · subst h; simp [lookA]
    · have hk : ¬ keyN x = keyN s := fun e => h (keyN_inj (hl x (by simp)) hs e)
      have e : lookA ((keyN x, n) :: (l.map keyN).zipIdx (n + 1)) (keyN s) = lookA ((l.map keyN).zipIdx (n + 1)) (keyN s) := by unfold lookA; rw [List.find?_cons_of_neg (by simpa using hk)]
      rw [e, ih]
      have h' : ¬ s = x := fun e => h e.symm
      simp only [List.mem_cons, h', false_or]
      split
      · have e2 : (x == s) = false := by simpa using h
        rw [List.idxOf_cons, e2]; simp; omega
      · rfl
theorem keysZ_put (l : List Nat) (s : Nat) (hs : s < 33554432) (hl : ∀ x ∈ l, x < 33554432) (h : s ∉ l) : putA (keysZ l 0) (keyN s) l.length = keysZ (l ++ [s]) 0 := by
  have hany : ((keysZ l 0).any fun x => decide (x.1 = keyN s)) = false := by
    rw [List.any_eq_false]
    intro x hx
    simp only [decide_eq_true_eq]
    intro e
    have := List.fst_mem_of_mem_zipIdx hx
    rw [e] at this
    obtain ⟨y, hy, he⟩ := List.mem_map.1 this
    exact h (keyN_inj (hl y hy) hs he ▸ hy)
  unfold putA
  rw [hany, if_neg (by simp)]
  unfold keysZ
  rw [List.map_append, List.zipIdx_append]
  simp

/-! ## the table's sets and the map of their numbers -/
/-- block gt holds a table whose third part vs is the call's own row of sets; map mb has their numbers; none of it lies in blocks of S -/
structure NvV (w : World) (S : Nat → Prop) (gt mb : Nat) (c0 c1 vs c3 : Value) (sets : List Nat) : Prop where
  k : Bk w gt 106 #[c0, c1, vs, c3]
  m : Mp Value.string evN w mb (keysZ sets 0)
  o : w.ownsRow 0 96 1 vs sets.length (seC sets)
  b : ¬ S gt
  bm : ¬ S mb
  s : ∀ k, vs.ownBlock = some k → ¬ S k
  n1 : some gt ≠ vs.ownBlock
  n2 : some mb ≠ vs.ownBlock
  n3 : gt ≠ mb
section
variable {w w' : World} {S : Nat → Prop} {gt mb : Nat} {c0 c1 vs c3 v' : Value} {sets : List Nat}
theorem NvV.all (h : NvV w S gt mb c0 c1 vs c3 sets) (hb : Below w.heap.size w w') : NvV w' S gt mb c0 c1 vs c3 sets :=
  ⟨h.k.all hb, h.m.all hb, own_all h.o hb, h.b, h.bm, h.s, h.n1, h.n2, h.n3⟩
/-- one set more -/
theorem NvV.app (h : NvV w S gt mb c0 c1 vs c3 sets) (hi : In S w) {x : Nat} {w1 : World} (hm : Mp Value.string evN w1 mb (keysZ (sets ++ [x]) 0)) (hg1 : w.grownBy w1 (some mb)) {o : Obj}
    (ho : w'.ownsRow 0 96 1 v' (sets.length + 1) (seC sets ++ [.int .u64 (x : Int)])) (hg : (w1.alloc o).grownBy w' vs.ownBlock) (hat : v'.ownBlock = vs.ownBlock ∨ v'.ownBlock = some (w1.heap.size + 1)) :
    NvV (w'.setCell ⟨gt, 2, none⟩ v') S gt mb c0 c1 v' c3 (sets ++ [x]) ∧ Kp S w (w'.setCell ⟨gt, 2, none⟩ v') := by
  have hgl := h.k.lt
  have hml := h.m.lt
  have hz := hg1.size
  have hv'g : some gt ≠ v'.ownBlock := by
    rcases hat with e | e
    · rw [e]; exact h.n1
    · rw [e]; intro e2; simp at e2; omega
  have hv'm : some mb ≠ v'.ownBlock := by
    rcases hat with e | e
    · rw [e]; exact h.n2
    · rw [e]; intro e2; simp at e2; omega
  have hs : ∀ k, v'.ownBlock = some k → ¬ S k := by
    intro k hk hsk
    rcases hat with e | e
    · rw [e] at hk; exact h.s k hk hsk
    · rw [e] at hk; have := hi k hsk; simp at hk; omega
  have hk1 : Bk (w1.alloc o) gt 106 #[c0, c1, vs, c3] := (h.k.grown hg1 (by intro e; simp at e; exact h.n3 e)).alloc o
  refine ⟨⟨?_, ?_, ?_, h.b, h.bm, hs, hv'g, hv'm, h.n3⟩, ?_⟩
  · have := (hk1.grown hg h.n1).set 2 v'; simpa using this
  · exact ((hm.all (box1 w1 o)).grown hg h.n2).far (p := ⟨gt, 2, none⟩) _ (fun e => h.n3 e.symm)
  · have := own_cell ho (p := ⟨gt, 2, none⟩) v' (fun e => hv'g e.symm)
    simpa [seC] using this
  · have h1 : Kp S w w1 := (Kp.refl S w).grown hg1 hi (fun k e => by simp at e; subst e; exact h.bm)
    have h2 : Kp S w (w1.alloc o) := h1.alloc (hi.kp h1) o
    exact (h2.grown hg (hi.kp h2) h.s).setCell (p := ⟨gt, 2, none⟩) h.b _
end
/-- the number of set s, and the sets behind -/
def numO (l : List Nat) (s : Nat) : Int × List Nat := if s = 0 then (-1, l) else if s ∈ l then ((l.idxOf s : Nat), l) else ((l.length : Nat), l ++ [s])
/-- what number leaves -/
def NoR (w : World) (S : Nat → Prop) (gt mb : Nat) (c0 c1 c3 : Value) (r : Int × List Nat) (x : Ending) (w' : World) : Prop :=
  x = .returned (.int .i64 r.1) ∧ (∃ vs, NvV w' S gt mb c0 c1 vs c3 r.2) ∧ Kp S w w'

set_option maxRecDepth 100000 in
set_option maxHeartbeats 1600000 in
theorem number_any (gt mb : Nat) (c0 c1 vs c3 : Value) (sets : List Nat) (s : Nat) (S : Nat → Prop) (w : World) (h : NvV w S gt mb c0 c1 vs c3 sets) (hin : In S w) (hs : s < 33554432) (hss : ∀ x ∈ sets, x < 33554432) (hT : Tab w) (hl : sets.length ≤ 1000000000) :
    Calls Tryz.prog 65 #[.pointer (some ⟨gt, 0, none⟩), .map (some mb), .int .u64 s] w (NoR w S gt mb c0 c1 c3 (numO sets s)) := by
  obtain ⟨w0, rfl⟩ : ∃ w0 : World, w0 = w := ⟨_, rfl⟩
  obtain ⟨r, HR⟩ : ∃ r, Hid (r = numO sets s) := ⟨_, rfl⟩
  rw [← HR.out]
  obtain ⟨A, cap, rfl⟩ := own_form h.o
  have HIN := Lib.hid hin
  by_cases h0 : s = 0
  · have hr : Hid (r = (-1, sets)) := by show _ = _; rw [HR.out, numO, if_pos h0]
    subst h0
    have HH := Lib.hid h
    clear h HR
    go_enter Tryz.func65, Tryz.ntmps65
    go_wp2
    go_ret
    exact ⟨ret_int (by rw [hr.out]), ⟨_, by rw [hr.out]; exact HH.out⟩, Kp.refl _ _⟩
  · have hsI : ((s : Int) == 0) = false := by simp; omega
    have CS := Lib.hid (spots_any s w0 hs hT)
    have HH := Lib.hid h
    have hz3 : ∀ w : World, (zeroValue 3).run Tryz.prog w = .ok (.int .i64 0) w := fun w => by kernel_rfl
    clear h
    go_enter Tryz.func65, Tryz.ntmps65
    go_wp2_with fail
    refine CS.out.mono ?_
    rintro e w1 ⟨vk, rfl, hok, hb1⟩
    have hcv : (convert 107 9 vk).run Tryz.prog w1 = .ok (.string (keyN s)) w1 := by
      have ho2 : Ow w1 5 w0.heap.size vk (keyB s) := by unfold Ow; rw [keyB_cells, keyB_len]; exact hok
      obtain ⟨b, hbs, _⟩ := ho2.bs
      exact run_str (P := Tryz.prog) w1 107 9 5 Tryz.underlying107 Tryz.underlying5 Tryz.underlying9 hbs
    have hv1 := HH.out.all hb1
    have hk1 : Kp S w0 w1 := Kp.of hb1 HIN.out
    have hlk := hv1.m.lookOk keyTx Tryz.underlying109 (keyN s) (hz3 _)
    have hlook := keysZ_look sets s 0 hs hss
    rw [hlook] at hlk
    obtain ⟨Ak, ck, rfl⟩ := own_form hok
    have HV1 := Lib.hid hv1
    have HK1 := Lib.hid hk1
    clear hok hlook CS
    by_cases hm : s ∈ sets
    · have hr : Hid (r = (((sets.idxOf s : Nat) : Int), sets)) := by show _ = _; rw [HR.out, numO, if_neg h0, if_pos hm]
      obtain ⟨d, HD⟩ : ∃ d, Hid (d = sets.idxOf s) := ⟨_, rfl⟩
      rw [← HD.out] at hlk hr
      rw [if_pos hm] at hlk
      simp only [Nat.zero_add, Option.map_some, Option.getD_some, Option.isSome_some, evN] at hlk
      clear hv1 hk1 HR hb1 HH
      go_wp2
      go_ret
      exact ⟨ret_int (by rw [hr.out]), ⟨_, by rw [hr.out]; exact HV1.out⟩, HK1.out⟩
    · have hr : Hid (r = (((sets.length : Nat) : Int), sets ++ [s])) := by show _ = _; rw [HR.out, numO, if_neg h0, if_neg hm]
      rw [if_neg hm] at hlk
      simp only [Option.map_none, Option.getD_none, Option.isSome_none] at hlk
      obtain ⟨w2, hrun, hm2, hg2, hz2⟩ := hv1.m.put keyTx Tryz.underlying109 (keyN s) sets.length
      rw [keysZ_put sets s hs hss hm] at hm2
      simp only [evN] at hrun
      have x2 : w1.cell? ⟨gt, 2, none⟩ = some (.slice A sets.length cap) := hv1.k.cell 2
      have hgl := hv1.k.lt
      have hne : some gt ≠ some mb := by intro e; simp at e; exact hv1.n3 e
      have hk2 := hv1.k.grown hg2 hne
      have y2 : w2.cell? ⟨gt, 2, none⟩ = some (.slice A sets.length cap) := hk2.cell 2
      have hgl2 := hk2.lt
      have ho2 := Lib.hid (World.ownsRow.alloc (World.ownsRow.kept hv1.o hg2 (by
        rcases Option.eq_none_or_eq_some (Value.slice A sets.length cap).ownBlock with e | ⟨k, e⟩
        · exact .inl e
        · exact .inr fun e2 => hv1.n2 e2.symm)) (.cells #[.int .u64 (s : Int)] 96))
      have HRD := Lib.hid (Rd.lit w2 96 1 1 #[.int .u64 (s : Int)] (0, 0) rfl (by omega))
      have HM2 := Lib.hid hm2
      have HG2 := Lib.hid hg2
      have HK2 := Lib.hid hk2
      clear hv1 hk1 HR hb1 HH hm2 hg2 hk2 hz2
      go_wp2_with (at_builtin; refine wpList_appR _ rfl (.tmp 36) (.tmp 38) 94 96 rfl _ 1 8 Tryz.underlying94 infoSe rfl (by decide) 0 rfl rfl ho2.out HRD.out ?_ ?_ ?_ ?_ ?_)
      · first | rfl | (intro u hu; simp at hu; subst hu; rfl)
      · unfold maxLen; omega
      · omega
      · first | omega | simp
      intro v' w4 ho4 hg4 hat
      have hfin := HV1.out.app (HIN.out.kp HK1.out) (x := s) HM2.out HG2.out ho4 hg4 (by simpa using hat)
      have HF := Lib.hid hfin
      have hk4 := ((HK2.out.alloc (.cells #[.int .u64 (s : Int)] 96)).grown hg4 HV1.out.n1)
      have z2 : w4.cell? ⟨gt, 2, none⟩ = some (.slice A sets.length cap) := hk4.cell 2
      have z2f : w4.frozen? ⟨gt, 2, none⟩ = false := hk4.frozen 2
      have hgl4 := hk4.lt
      obtain ⟨A', c', rfl⟩ := own_form ho4
      clear hfin hk4 ho4 hg4 hat ho2
      go_wp2
      go_ret
      exact ⟨ret_int (by rw [hr.out]), ⟨_, by rw [hr.out]; exact HF.out.1⟩, HK1.out.trans HF.out.2⟩
end Go.Proofs.YtkbileabkfccgaaGreatDoor

/- match: cmp.Or of errors. -/
namespace Go.Proofs.YtkbileabkfccgaaGreatDoor
open Go.RowKit

/-- the first that is not zero -/
def orM (l : List Int) : Int := (l.find? fun x => decide (x ≠ 0)).getD 0
theorem orM_zero {l : List Int} (h : ∀ x ∈ l, x = 0) : orM l = 0 := by
  unfold orM
  have : l.find? (fun x => decide (x ≠ 0)) = none := by rw [List.find?_eq_none]; intro x hx; simp [h x hx]
  rw [this]; rfl
theorem orM_at {l : List Int} {k : Nat} (hk : k < l.length) (h : ∀ j (hj : j < l.length), j < k → l[j] = 0) (hx : l[k] ≠ 0) : orM l = l[k] := by
  unfold orM
  have : l.find? (fun x => decide (x ≠ 0)) = some l[k] := by
    rw [List.find?_eq_some_iff_getElem]
    exact ⟨by simpa using hx, k, hk, rfl, fun j hj => by simp [h j (by omega) hj]⟩
  rw [this]; rfl

set_option maxRecDepth 100000 in
set_option maxHeartbeats 800000 in
theorem or_any (l : List Int) (v : Value) (B : Nat) (w : World) (hv : Is w B v l) (hB : B ≤ w.heap.size) :
    Calls Tryz.prog 26 #[v] w fun e w' => e = .returned (.int .i64 (orM l)) ∧ w = w' := by
  obtain ⟨A, cap, rfl⟩ := hv.form
  obtain ⟨r, HR⟩ : ∃ r, Hid (r = orM l) := ⟨_, rfl⟩
  rw [← HR.out]
  have HV := Lib.hid hv
  have hmx := hv.max
  unfold maxLen at hmx
  clear hv
  go_enter Tryz.func26, Tryz.ntmps26
  go_wp2
  go_loop [8] (fun i => ∃ k : Nat, k ≤ l.length ∧ i = .int .i64 k ∧ Hid (∀ j (hj : j < l.length), j < k → l[j] = 0)) (fun i => l.length - (intOf i).toNat)
  case atStart => exact ⟨0, Nat.zero_le _, rfl, fun j _ hj => by omega⟩
  case round =>
    obtain ⟨k, hk, rfl, HZ⟩ := hrel
    by_cases hlt : k < l.length
    · have hkI : (k : Int) < (l.length : Int) := by omega
      obtain ⟨b, off, rfl, hb, hcap, hc⟩ := HV.out.at hlt
      have hbw : b < w.heap.size := by omega
      obtain ⟨x, HX⟩ : ∃ x, Hid (x = l[k]) := ⟨_, Lib.hid rfl⟩
      rw [← HX.out] at hc
      by_cases hx : x = 0
      · subst hx
        have HZ2 : Hid (∀ j (hj : j < l.length), j < k + 1 → l[j] = 0) := by
          intro j hj hjk
          by_cases h : j < k
          · exact HZ.out j hj h
          · obtain rfl : j = k := by omega
            exact HX.out.symm
        clear HZ HX
        go_wp2
        go_round
        case rel => exact ⟨k + 1, by omega, by go_num, HZ2⟩
        case measure => simp [intOf]; omega
      · have hxb : (x != 0) = true := by simpa using hx
        have hfin : Hid (r = x) := by show _ = _; rw [HR.out, orM_at hlt HZ.out (by rw [← HX.out]; exact hx), HX.out]
        clear HR HX HZ
        go_wp2
        go_ret
        exact ⟨ret_int hfin.out.symm, rfl⟩
    · obtain rfl : k = l.length := by omega
      have hfin : Hid (r = 0) := by
        show _ = _; rw [HR.out]; refine orM_zero fun x hx => ?_
        obtain ⟨j, hj, rfl⟩ := List.mem_iff_getElem.1 hx
        exact HZ.out j hj hj
      clear HR HZ
      go_wp2
      go_ret
      exact ⟨ret_int hfin.out.symm, rfl⟩
end Go.Proofs.YtkbileabkfccgaaGreatDoor

/- match: found, the mathematics: the table of a frame. -/
namespace Go.Proofs.YtkbileabkfccgaaGreatDoor
open Go.RowKit

theorem nodup_filter_len (n : Nat) : ∀ l : List Nat, l.Nodup → l.length ≤ (l.filter fun x => decide (x ≠ n)).length + 1
  | [], _ => by simp
  | a :: l, h => by
    rw [List.nodup_cons] at h
    by_cases ha : a = n
    · subst ha
      have : (l.filter fun x => decide (x ≠ a)) = l := by
        rw [List.filter_eq_self]; intro x hx; simp; rintro rfl; exact h.1 hx
      rw [List.filter_cons, this]; simp
    · have := nodup_filter_len n l h.2
      rw [List.filter_cons]; simp [ha] at this ⊢; omega
theorem nodup_len : ∀ (n : Nat) (l : List Nat), l.Nodup → (∀ x ∈ l, x < n) → l.length ≤ n
  | 0, l, _, h => by cases l with
    | nil => simp
    | cons a l => have := h a (by simp); omega
  | n + 1, l, hn, h => by
    have h1 := nodup_filter_len n l hn
    have h2 := nodup_len n (l.filter fun x => decide (x ≠ n)) (hn.filter _) (fun x hx => by
      rw [List.mem_filter] at hx; have := h x hx.1; have := hx.2; simp at this; omega)
    omega

/-- the row of a set: by letter the number of the set behind -/
def rowS1 (nx : Nat) (a : List Int × List Nat) (L : Lt) : List Int × List Nat := (a.1 ++ [(numO a.2 (nx &&& L.at_)).1], (numO a.2 (nx &&& L.at_)).2)
def rowS (nx : Nat) (ls : List Lt) (sets : List Nat) : List Int × List Nat := ls.foldl (rowS1 nx) ([], sets)
/-- sets and rows, one row more -/
def stepF (bh : List Nat) (ls : List Lt) (st : List Nat × List (List Int)) : List Nat × List (List Int) :=
  ((rowS (nextM bh (st.1.getD st.2.length 0)) ls st.1).2, st.2 ++ [(rowS (nextM bh (st.1.getD st.2.length 0)) ls st.1).1])
def foundF (bh : List Nat) (ls : List Lt) : Nat → List Nat × List (List Int) → List Nat × List (List Int)
  | 0, st => st
  | f + 1, st => if st.2.length < st.1.length then foundF bh ls f (stepF bh ls st) else st
/-- sets that are all different, and small -/
def SetsOk (l : List Nat) : Prop := l.Nodup ∧ ∀ x ∈ l, x < 33554432 ∧ x ≠ 0
theorem SetsOk.len {l : List Nat} (h : SetsOk l) : l.length ≤ 33554432 := nodup_len _ _ h.1 fun x hx => (h.2 x hx).1
theorem numO_ok {l : List Nat} {s : Nat} (h : SetsOk l) (hs : s < 33554432) : SetsOk (numO l s).2 ∧ l.length ≤ (numO l s).2.length ∧ -1 ≤ (numO l s).1 ∧ (numO l s).1 < ((numO l s).2.length : Int) := by
  unfold numO
  split
  · exact ⟨h, Nat.le_refl _, by simp, by simp; omega⟩
  · rename_i h0
    split
    · rename_i hm
      have := List.idxOf_lt_length_iff.2 hm
      exact ⟨h, Nat.le_refl _, by show -1 ≤ ((l.idxOf s : Nat) : Int); omega, by show ((l.idxOf s : Nat) : Int) < (l.length : Int); omega⟩
    · rename_i hm
      refine ⟨⟨?_, ?_⟩, by simp, by show -1 ≤ ((l.length : Nat) : Int); omega, by simp; omega⟩
      · rw [List.nodup_append]
        refine ⟨h.1, by simp, ?_⟩
        intro x hx y hy
        simp at hy; subst hy
        rintro rfl; exact hm hx
      · intro x hx
        rw [List.mem_append] at hx
        rcases hx with hx | hx
        · exact h.2 x hx
        · simp at hx; subst hx; exact ⟨hs, h0⟩
/-- a row is good -/
def RowOk (n k : Nat) (r : List Int) : Prop := r.length = k ∧ ∀ x ∈ r, -1 ≤ x ∧ x < (n : Int)
theorem RowOk.mono {n n' k : Nat} {r : List Int} (h : RowOk n k r) (hn : n ≤ n') : RowOk n' k r := ⟨h.1, fun x hx => ⟨(h.2 x hx).1, by have := (h.2 x hx).2; omega⟩⟩
theorem rowS_ok (nx : Nat) (hnx : nx < 33554432) : ∀ (ls : List Lt) (a : List Int × List Nat), SetsOk a.2 → RowOk a.2.length a.1.length a.1 →
    SetsOk (ls.foldl (rowS1 nx) a).2 ∧ a.2.length ≤ (ls.foldl (rowS1 nx) a).2.length ∧ RowOk (ls.foldl (rowS1 nx) a).2.length (a.1.length + ls.length) (ls.foldl (rowS1 nx) a).1
  | [], a, h1, h2 => ⟨h1, Nat.le_refl _, by simpa using h2⟩
  | L :: ls, a, h1, h2 => by
    have hn : nx &&& L.at_ < 33554432 := Nat.lt_of_le_of_lt Nat.and_le_left hnx
    obtain ⟨g1, g2, g3, g4⟩ := numO_ok h1 hn
    have hr : RowOk (rowS1 nx a L).2.length (rowS1 nx a L).1.length (rowS1 nx a L).1 := by
      refine ⟨rfl, fun x hx => ?_⟩
      simp only [rowS1, List.mem_append, List.mem_singleton] at hx
      rcases hx with hx | rfl
      · have := h2.2 x hx
        exact ⟨this.1, by show x < ((numO a.2 (nx &&& L.at_)).2.length : Int); omega⟩
      · exact ⟨g3, g4⟩
    obtain ⟨e1, e2, e3⟩ := rowS_ok nx hnx ls (rowS1 nx a L) g1 hr
    rw [List.foldl_cons]
    refine ⟨e1, Nat.le_trans g2 e2, ?_⟩
    have hlen : (rowS1 nx a L).1.length + ls.length = a.1.length + (L :: ls).length := by simp [rowS1]; omega
    rw [← hlen]; exact e3
/-- what a table under construction keeps -/
structure FI (ls : List Lt) (st : List Nat × List (List Int)) : Prop where
  s : SetsOk st.1
  n : st.2.length ≤ st.1.length
  r : ∀ r ∈ st.2, RowOk st.1.length ls.length r
theorem FI.start (ls : List Lt) : FI ls ([1], []) := ⟨⟨by simp, by simp⟩, by simp, by simp⟩
theorem nextM_lt {bh : List Nat} {s : Nat} (hb : ∀ x ∈ bh, x < 33554432) : nextM bh s < 33554432 := ors_lt _ (by decide) hb
theorem FI.step {bh : List Nat} {ls : List Lt} {st : List Nat × List (List Int)} (h : FI ls st) (hlt : st.2.length < st.1.length) (hb : ∀ x ∈ bh, x < 33554432) : FI ls (stepF bh ls st) := by
  obtain ⟨e1, e2, e3⟩ := rowS_ok (nextM bh (st.1.getD st.2.length 0)) (nextM_lt hb) ls ([], st.1) h.s ⟨rfl, by simp⟩
  refine ⟨e1, ?_, ?_⟩
  · unfold stepF rowS; simp only [List.length_append, List.length_singleton]; simp only at e2; omega
  · intro r hr
    unfold stepF at hr ⊢
    simp only [List.mem_append, List.mem_singleton] at hr
    rcases hr with hr | rfl
    · exact (h.r r hr).mono e2
    · have : ([] : List Int).length + ls.length = ls.length := by simp
      rw [this] at e3
      exact e3
/-- the table of a frame -/
def foundM (bh : List Nat) (ls : List Lt) : List Nat × List (List Int) := foundF bh ls 33554433 ([1], [])
theorem foundF_ok {bh : List Nat} {ls : List Lt} (hb : ∀ x ∈ bh, x < 33554432) : ∀ (f : Nat) (st : List Nat × List (List Int)), FI ls st → 33554433 - st.2.length ≤ f → FI ls (foundF bh ls f st) ∧ (foundF bh ls f st).2.length = (foundF bh ls f st).1.length
  | 0, st, h, hf => by have := h.s.len; have := h.n; omega
  | f + 1, st, h, hf => by
    rw [foundF]
    split
    · rename_i hlt
      exact foundF_ok hb f _ (h.step hlt hb) (by unfold stepF; simp; omega)
    · exact ⟨h, by have := h.n; omega⟩
/-- the table, as a whole -/
def foundT (bh : List Nat) (ends : Nat) (ls : List Lt) : Tb := ⟨ends, ls, (foundM bh ls).1, (foundM bh ls).2⟩
theorem foundT_ok {bh : List Nat} {ends : Nat} {ls : List Lt} (hb : ∀ x ∈ bh, x < 33554432) (he : ends < 33554432) (hl : ls.length ≤ 100000000) : (foundT bh ends ls).Ok := by
  obtain ⟨h, hn⟩ := foundF_ok hb 33554433 ([1], []) (FI.start ls) (by simp)
  exact ⟨fun x hx => (h.s.2 x hx).1, he, hn, h.r, by have := h.s.len; show (foundM bh ls).1.length ≤ _; unfold foundM; omega, hl⟩
end Go.Proofs.YtkbileabkfccgaaGreatDoor

/- match: the rows of a table under construction. -/
namespace Go.Proofs.YtkbileabkfccgaaGreatDoor
open Go.RowKit

theorem infoIss : (Tryz.prog.info? 82).map (fun i => (i.zero, i.size, i.bytes)) = some (some (.slice none 0 0), 1, 24) := by kernel_rfl
/-- slice v, of a call's own from block lo on, holds slices of numbers; all of it lies in blocks of A -/
def Xs (w : World) (lo : Nat) (A : Nat → Prop) (v : Value) (m : List (List Int)) : Prop :=
  ∃ (ss : List Value) (h : ss.length = m.length), w.ownsRow lo 82 1 v m.length ss ∧ (∀ k, v.ownBlock = some k → A k) ∧ ∀ i (hi : i < m.length), RdS w (fun b => lo ≤ b ∧ A b ∧ v.ownBlock ≠ some b) (ss[i]'(by omega)) 1 m[i].length (itC m[i])
section
variable {w w' : World} {lo : Nat} {A A' S : Nat → Prop} {v v' s : Value} {m : List (List Int)} {r : List Int}
theorem Xs.nil (w : World) (lo : Nat) (A : Nat → Prop) : Xs w lo A (.slice none 0 0) [] := ⟨[], rfl, World.ownsRow_nil w lo _ 1, by simp [Value.ownBlock], fun i hi => by simp at hi⟩
theorem Xs.form (h : Xs w lo A v m) : ∃ A cap, v = .slice A m.length cap := by obtain ⟨ss, _, ho, _⟩ := h; exact own_form ho
theorem Xs.lt (h : Xs w lo A v m) : ∀ k, v.ownBlock = some k → lo ≤ k ∧ k < w.heap.size := by obtain ⟨ss, _, ho, _⟩ := h; exact ho.lt
theorem Xs.own (h : Xs w lo A v m) : ∀ k, v.ownBlock = some k → A k := by obtain ⟨ss, _, ho, ha, _⟩ := h; exact ha
theorem own_kp {e : TypeId} {base sz n : Nat} {cs : List Value} (h : w.ownsRow base e sz v n cs) (k : Kp S w w') (hs : ∀ b, v.ownBlock = some b → S b) : w'.ownsRow base e sz v n cs := by
  rcases h.2 with ⟨rfl, h0⟩ | ⟨g, cap, cur, rfl, hb, hg, h1, h2, h3, h4⟩
  · exact ⟨h.1, .inl ⟨rfl, h0⟩⟩
  · exact ⟨h.1, .inr ⟨g, cap, cur, rfl, hb, (k.block g (hs g rfl)).trans hg, h1, h2, h3, h4⟩⟩
theorem Xs.kp (h : Xs w lo A v m) (k : Kp S w w') (hs : ∀ b, b < w.heap.size → lo ≤ b → A b → S b) : Xs w' lo A v m := by
  obtain ⟨ss, hl, ho, ha, hk⟩ := h
  refine ⟨ss, hl, own_kp ho k fun b hb => hs b (ho.lt b hb).2 (ho.lt b hb).1 (ha b hb), ha, fun i hi => ?_⟩
  exact (((hk i hi).inb (by omega)).keep fun b o hb => k.cell (p := ⟨b, o, none⟩) (hs b hb.2 hb.1.1 hb.1.2.1)).mono fun b hb => hb.1
theorem Xs.all (h : Xs w lo A v m) (hb : Below w.heap.size w w') : Xs w' lo A v m := h.kp (S := fun k => k < w.heap.size) (Kp.of hb fun _ hk => hk) fun _ hb _ _ => hb
theorem Xs.amono (h : Xs w lo A v m) (hA : ∀ b, b < w.heap.size → lo ≤ b → A b → A' b) : Xs w lo A' v m := by
  obtain ⟨ss, hl, ho, ha, hk⟩ := h
  exact ⟨ss, hl, ho, fun b hb => hA b (ho.lt b hb).2 (ho.lt b hb).1 (ha b hb), fun i hi => ((hk i hi).inb (by omega)).mono fun b hb => ⟨hb.1.1, hA b hb.2 hb.1.1 hb.1.2.1, hb.1.2.2⟩⟩
theorem Xs.app (ss : List Value) (hs : ss.length = m.length) (ha : ∀ k, v.ownBlock = some k → A k) (hk : ∀ i (hi : i < m.length), RdS w (fun b => lo ≤ b ∧ A b ∧ v.ownBlock ≠ some b) (ss[i]'(by omega)) 1 m[i].length (itC m[i]))
    (ht : RdS w (fun b => lo ≤ b ∧ A b ∧ v.ownBlock ≠ some b) s 1 r.length (itC r))
    (ho : w'.ownsRow lo 82 1 v' (m.length + 1) (ss ++ [s])) (hg : w.grownBy w' v.ownBlock)
    (hat : v'.ownBlock = v.ownBlock ∨ v'.ownBlock = some w.heap.size) (hn : A w.heap.size) : Xs w' lo A v' (m ++ [r]) := by
  have keep : ∀ {s : Value} {n : Nat} {cs : List Value}, RdS w (fun b => lo ≤ b ∧ A b ∧ v.ownBlock ≠ some b) s 1 n cs → RdS w' (fun b => lo ≤ b ∧ A b ∧ v'.ownBlock ≠ some b) s 1 n cs := by
    intro s n cs hh
    refine ((hh.inb (by omega)).keep fun b o hb => ?_).mono fun b hb => ⟨hb.1.1, hb.1.2.1, ?_⟩
    · exact hg.cell_far ⟨b, o, none⟩ hb.2 (fun e => hb.1.2.2 e.symm)
    · rcases hat with e | e
      · rw [e]; exact hb.1.2.2
      · rw [e]; intro e2; have := hb.2; simp at e2; omega
  refine ⟨ss ++ [s], by simp [hs], ?_, ?_, fun i hi => ?_⟩
  · rw [List.length_append]; exact ho
  · intro k hk
    rcases hat with e | e
    · rw [e] at hk; exact ha k hk
    · rw [e] at hk; simp at hk; subst hk; exact hn
  · by_cases hik : i < m.length
    · have e1 : (ss ++ [s])[i]'(by simp [hs]; omega) = ss[i]'(by omega) := List.getElem_append_left _
      have e2 : (m ++ [r])[i]'hi = m[i] := List.getElem_append_left _
      rw [e1, e2]
      exact keep (hk i hik)
    · obtain rfl : i = m.length := by simp at hi; omega
      have e1 : (ss ++ [s])[m.length]'(by simp [hs]) = s := by rw [List.getElem_append_right (by omega)]; simp [hs]
      have e2 : (m ++ [r])[m.length]'hi = r := by rw [List.getElem_append_right (by omega)]; simp
      rw [e1, e2]
      exact keep ht
/-- read as slices of numbers -/
theorem Xs.iss (h : Xs w lo A v m) : Iss w w.heap.size v m := by
  obtain ⟨ss, hl, ho, ha, hk⟩ := h
  exact ⟨ss, hl, Rd.own ho, fun i hi => RdS.rd ((hk i hi).inb (by omega)) fun b hb => hb.2⟩
end
section
variable {w w' : World} {S S' : Nat → Prop} {gt mb : Nat} {c0 c1 vs c3 v' : Value} {sets : List Nat}
theorem NvV.smono (h : NvV w S gt mb c0 c1 vs c3 sets) (hS : ∀ k, S' k → S k) : NvV w S' gt mb c0 c1 vs c3 sets :=
  ⟨h.k, h.m, h.o, fun hs => h.b (hS _ hs), fun hs => h.bm (hS _ hs), fun k hk hs => h.s k hk (hS _ hs), h.n1, h.n2, h.n3⟩
/-- blocks of any other set are theirs neither -/
theorem NvV.sset (h : NvV w S gt mb c0 c1 vs c3 sets) (h1 : ¬ S' gt) (h2 : ¬ S' mb) (h3 : ∀ k, vs.ownBlock = some k → ¬ S' k) : NvV w S' gt mb c0 c1 vs c3 sets :=
  ⟨h.k, h.m, h.o, h1, h2, h3, h.n1, h.n2, h.n3⟩
/-- block p is another one -/
theorem NvV.far (h : NvV w S gt mb c0 c1 vs c3 sets) {p : Addr} (u : Value) (hg : gt ≠ p.block) (hm : mb ≠ p.block) (h1 : vs.ownBlock ≠ some p.block) : NvV (w.setCell p u) S gt mb c0 c1 vs c3 sets :=
  ⟨h.k.far hg u, h.m.far u hm, own_cell h.o u h1, h.b, h.bm, h.s, h.n1, h.n2, h.n3⟩
/-- another row has grown -/
theorem NvV.grown (h : NvV w S gt mb c0 c1 vs c3 sets) {row : Option Nat} (hg : w.grownBy w' row) (h1 : some gt ≠ row) (h2 : some mb ≠ row) (h3 : vs.ownBlock = none ∨ vs.ownBlock ≠ row) : NvV w' S gt mb c0 c1 vs c3 sets :=
  ⟨h.k.grown hg h1, h.m.grown hg h2, World.ownsRow.kept h.o hg h3, h.b, h.bm, h.s, h.n1, h.n2, h.n3⟩
/-- the rows' slice is another one now -/
theorem NvV.set3 (h : NvV w S gt mb c0 c1 vs c3 sets) (u : Value) : NvV (w.setCell ⟨gt, 3, none⟩ u) S gt mb c0 c1 vs u sets :=
  ⟨by have := h.k.set 3 u; simpa using this, h.m.far (p := ⟨gt, 3, none⟩) u (fun e => h.n3 e.symm), own_cell h.o (p := ⟨gt, 3, none⟩) u (fun e => h.n1 e.symm), h.b, h.bm, h.s, h.n1, h.n2, h.n3⟩
end
end Go.Proofs.YtkbileabkfccgaaGreatDoor
