/- TkOwn, TkJoin, TkCut, TkPut, TkRef, TkRcp, TkRct, TkRpt, TkLaw, merged. -/
import Derived.Test.YtkeillekikbhoaaGreatDoorTkC2
import Derived.Test.YtkeillekikbhoaaGreatDoorRowLivesRun
import Derived.Deep.RegionLaw

/- attributes and marks in memory of their own, by the program. -/
namespace Go.Proofs.YtkeillekikbhoaaGreatDoor
open Go.RowKit

theorem infoAt2 : (Tryz.prog.info? 109).map (fun i => (i.zero, i.size, i.bytes)) = some (some (.agg #[.string .empty, .string .empty]), 2, 32) := by kernel_rfl
theorem infoMk : (Tryz.prog.info? 85).map (fun i => (i.zero, i.size, i.bytes)) = some (some (.agg #[.string .empty, .slice none 0 0]), 2, 40) := by kernel_rfl

theorem own_rq {w : World} {e : TypeId} {base sz n : Nat} {v : Value} {cs : List Value} (h : w.ownsRow base e sz v n cs) : Rq w (fun b => base ≤ b) v sz n cs := by
  obtain ⟨A', cap', rfl, h0, h1, h2, h3⟩ := Rd.own h
  refine ⟨A', cap', rfl, h0, h1, h2, h3.imp id ?_⟩
  rintro ⟨b, off, rfl, hb, hc⟩
  rcases own_shape h with ⟨h4, h5⟩ | ⟨g, cap2, h4, _⟩
  · simp at h4
  · simp only [Value.slice.injEq, Option.some.injEq, Addr.mk.injEq, and_true, true_and] at h4
    obtain ⟨⟨rfl, rfl⟩, rfl⟩ := h4
    exact ⟨b, 0, rfl, ⟨(h.lt b rfl).1, hb⟩, hc⟩
set_option maxRecDepth 100000 in
theorem ownAttrs_any (v : Value) (l : List At) (S : Nat → Prop) (w : World) (hv : Rq w S v 2 l.length (atC l)) (hr : l.length ≤ 4398046511104) :
    Calls Tryz.prog 49 #[v] w fun e w' => ∃ v', e = .returned v' ∧ Rq w' (fun b => w.heap.size ≤ b) v' 2 l.length (atC l) ∧ Below w.heap.size w w' := by
  obtain ⟨A, cap, rfl⟩ := hv.form
  have hrd := Lib.hid hv.rd
  clear hv
  go_enter Tryz.func49, Tryz.ntmps49
  go_wp2_with (at_builtin; refine wpList_appR _ rfl (.const (.slice none 0 0)) (.tmp 3) 31 109 rfl _ 2 32 Tryz.underlying31 infoAt2 rfl (by decide) w.heap.size rfl rfl (World.ownsRow_nil w _ _ 2) hrd.out (atC_one l) ?_ ?_ ?_ ?_)
  · unfold maxLen; omega
  · omega
  · exact Nat.le_refl _
  intro v1 w1 hown hg _
  have o1 : Hid (w1.ownsRow w.heap.size 109 2 v1 l.length (atC l)) := by show World.ownsRow _ _ _ _ _ _ _; simpa using hown
  have B1 : Below w.heap.size w w1 := (Below.refl _ _).grown hg (Nat.le_refl _) (by simp [Value.ownBlock])
  clear hown hg
  go_wp2
  go_ret
  exact ⟨v1, rfl, own_rq o1.out, B1⟩

theorem Ks.setCell {S S' : Nat → Prop} {w : World} {g j : Nat} {u : Value} (hS : ∀ b, S b → b ≠ g ∧ S' b) : Ks S S' w (w.setCell ⟨g, j, none⟩ u) := fun b h1 h2 =>
  ⟨(hS b h1).2, by simpa using h2, by simp [World.setCell, Array.getElem?_modify, Ne.symm (hS b h1).1]⟩
/-- what a row of the call's own gives to be stored into -/
theorem own_at {w : World} {base e sz n g cap j : Nat} {cs : List Value} {u : Value} (h : w.ownsRow base e sz (.slice (some ⟨g, 0, none⟩) n cap) n cs) (hu : cs[j]? = some u) : w.cell? ⟨g, j, none⟩ = some u ∧ w.frozen? ⟨g, j, none⟩ = false ∧ g < w.heap.size := by
  have h0 := World.ownsRow.cells h (g := g) rfl _ _ hu
  rw [Addr.add_lit, Nat.zero_add] at h0
  exact ⟨h0, h.frozenAt j, (h.lt g rfl).2⟩

set_option maxRecDepth 100000 in
theorem ownMarks_any (v : Value) (l : List Mk) (S : Nat → Prop) (w : World) (hv : Mks w S v l) (gl : Hid (FineM l)) :
    Calls Tryz.prog 50 #[v] w fun e w' => ∃ v', e = .returned v' ∧ Mks w' (fun b => S b ∨ w.heap.size ≤ b) v' l ∧ Below w.heap.size w w' := by
  obtain ⟨A, cap, rfl⟩ := hv.form
  obtain ⟨cs, rq, mc⟩ := hv
  have hrd := Lib.hid rq.rd
  have hml := gl.out.1
  clear rq
  go_enter Tryz.func50, Tryz.ntmps50
  go_wp2_with (at_builtin; refine wpList_appR _ rfl (.const (.slice none 0 0)) (.tmp 6) 32 85 rfl _ 2 40 Tryz.underlying32 infoMk rfl (by decide) w.heap.size rfl rfl (World.ownsRow_nil w _ _ 2) hrd.out mc.oneC ?_ ?_ ?_ ?_)
  · unfold maxLen; omega
  · omega
  · exact Nat.le_refl _
  intro v1 w1 hown hg _
  have o1 : Hid (w1.ownsRow w.heap.size 85 2 v1 l.length cs) := by show World.ownsRow _ _ _ _ _ _ _; simpa using hown
  have B1 : Below w.heap.size w w1 := (Below.refl _ _).grown hg (Nat.le_refl _) (by simp [Value.ownBlock])
  have m1 := Lib.hid (mc.keep (S' := fun b => some b ≠ v1.ownBlock ∧ (S b ∨ w.heap.size ≤ b)) (w' := w1) fun b h1 hb => ⟨⟨fun h => by have := (o1.out.lt b h.symm).1; omega, .inl h1⟩, Nat.lt_of_lt_of_le hb B1.size, B1.block b hb⟩)
  obtain ⟨A1, cap1, rfl⟩ := own_form o1.out
  clear hown hg mc hrd
  go_wp2
  go_loopg [4, 5, 10] l.length (fun g s4 s5 s10 wr => ∃ (k : Nat) (cs : List Value), k ≤ l.length ∧ g = l.length - k ∧ s10 = .int .i64 k ∧ Hid (wr.ownsRow w.heap.size 85 2 (.slice A1 l.length cap1) l.length cs) ∧ Hid (MkC wr (fun b => some b ≠ (Value.slice A1 l.length cap1).ownBlock ∧ (S b ∨ w.heap.size ≤ b)) cs l) ∧ Below w.heap.size w wr)
  case atStart => exact ⟨0, cs, Nat.zero_le _, by omega, rfl, o1, m1, B1⟩
  case round =>
    clear o1 m1 B1 cs w1
    obtain ⟨k, cs, hk, hg, rfl, ho, mc, hb⟩ := hrel
    have HG := Lib.hid hg
    clear hg
    have hsz := hb.size
    by_cases hlt : k < l.length
    · rcases own_shape ho.out with ⟨h, h2⟩ | ⟨g, cap', h, hcap⟩
      · omega
      · simp only [Value.slice.injEq, true_and] at h
        obtain ⟨rfl, rfl⟩ := h
        have hgl := ho.out.lt g rfl
        have hgs := hgl.2
        obtain ⟨c0, va, c1, rx⟩ := mc.out.2 k hlt
        obtain ⟨Ax, cx, rfl⟩ := rx.form
        have h0 := World.ownsRow.cells ho.out (g := g) rfl _ _ c0
        have h1 := World.ownsRow.cells ho.out (g := g) rfl _ _ c1
        rw [Addr.add_lit, Nat.zero_add] at h0 h1
        have hlen := mc.out.1
        have HC : Hid (∀ w', Below wr.heap.size wr w' → Calls Tryz.prog 49 #[.slice Ax l[k].a.length cx] w' fun e w'' => ∃ v', e = .returned v' ∧ Rq w'' (fun b => wr.heap.size ≤ b) v' 2 l[k].a.length (atC l[k].a) ∧ Below wr.heap.size wr w'') := fun w' h =>
          (ownAttrs_any _ l[k].a _ w' (rx.keep (.below h)) (gl.out.at hlt)).mono fun e w'' ⟨v', he, hr, hb⟩ => ⟨v', he, hr.mono fun b h1 _ => Nat.le_trans h.size h1, h.trans (hb.mono h.size)⟩
        clear rx c0 c1
        have hi0 : (0 : Int) ≤ (k : Int) := by omega
        have hi1 : (k : Int) < (l.length : Int) := by omega
        go_wp2_with fail
        refine (HC.out _ ((Below.refl _ _).alloc (Nat.le_refl _) _)).mono ?_
        rintro e w3 ⟨v3, rfl, r3, q3⟩
        obtain ⟨A3, c3, rfl⟩ := r3.form
        have r3 := Lib.hid r3
        have ho3 := Lib.hid (own_all ho.out q3)
        have h13 := (q3.cell (p := ⟨g, k * 2 + 1, none⟩) hgs).trans h1
        have hfz := ho3.out.frozenAt (k * 2 + 1)
        have hs3 := q3.size
        have hg3 : g < w3.heap.size := by omega
        have mc3 := Lib.hid (mc.out.keep (S' := fun b => some b ≠ (Value.slice (some ⟨g, 0, none⟩) l.length cap1).ownBlock ∧ (S b ∨ w.heap.size ≤ b)) (w' := w3) fun b h1 hb => ⟨h1, Nat.lt_of_lt_of_le hb hs3, q3.block b hb⟩)
        have B3 := hb.trans (q3.mono hsz)
        clear q3 HC h0 h1
        go_wp2
        go_roundg (l.length - (k + 1))
        case measure => have := HG.out; omega
        case rel =>
          refine ⟨k + 1, cs.set (k * 2 + 1) (.slice A3 l[k].a.length c3), by omega, rfl, by go_num, (World.ownsRow.stored ho3.out (k * 2 + 1) _).1, ?_, B3.setCell (p := ⟨g, k * 2 + 1, none⟩) (by simp; omega) _⟩
          show MkC _ _ _ _
          refine (mc3.out.keep (.setCell fun b h => ⟨by simpa [Value.ownBlock] using h.1, h⟩)).set k hlt (r3.out.keep (.setCell fun b h => ⟨by omega, by simp [Value.ownBlock]; omega, .inr (by omega)⟩))
    · go_wp2
      go_ret
      refine ⟨_, rfl, ⟨cs, (own_rq ho.out).mono fun _ h _ => .inr h, mc.out.keep fun b h1 h => ⟨h1.2, h, rfl⟩⟩, hb⟩
end Go.Proofs.YtkeillekikbhoaaGreatDoor

/- rows joined, in memory of their own. -/
namespace Go.Proofs.YtkeillekikbhoaaGreatDoor
open Go.RowKit

/-- rows, as they are read: a slice of slices -/
def Rws (w : World) (S : Nat → Prop) (v : Value) (ls : List (List Tk)) : Prop := ∃ cs, Rd w w.heap.size v 1 ls.length cs ∧ ∀ k (hk : k < ls.length), ∃ u, cs[k]? = some u ∧ Tks w S u ls[k]
theorem flat_take (ls : List (List Tk)) (k : Nat) (hk : k < ls.length) : (ls.take (k + 1)).flatten = (ls.take k).flatten ++ ls[k] := by
  rw [List.take_succ_eq_append_getElem hk, List.flatten_append]; simp
theorem flat_len (ls : List (List Tk)) (k : Nat) : (ls.take k).flatten.length ≤ ls.flatten.length := by
  have : ls.flatten = (ls.take k).flatten ++ (ls.drop k).flatten := by rw [← List.flatten_append, List.take_append_drop]
  rw [this, List.length_append]; omega

set_option maxRecDepth 100000 in
set_option maxHeartbeats 2000000 in
theorem joined_any (v : Value) (ls : List (List Tk)) (w : World) (hv : Rws w (fun b => b < w.heap.size) v ls) (gl : Hid (FineT ls.flatten)) (hn : ls.flatten.length ≤ 1000000000) (hls : ls.length ≤ 10) :
    Calls Tryz.prog 32 #[v] w fun e w' => ∃ v', e = .returned v' ∧ Tks w' (fun _ => True) v' ls.flatten ∧ Below w.heap.size w w' := by
  obtain ⟨rs, hrd, hrs⟩ := hv
  obtain ⟨A, cap, rfl⟩ := hrd.form
  have hrd := Lib.hid hrd
  go_enter Tryz.func32, Tryz.ntmps32
  go_wp2
  go_loopg [3, 5, 10] ls.length (fun g s3 s5 s10 wr => ∃ (k : Nat) (cs : List Value) (l : List Tk), k ≤ ls.length ∧ g = ls.length - k ∧ s10 = .int .i64 k ∧ Hid (l = (ls.take k).flatten) ∧ Hid (wr.ownsRow w.heap.size 45 5 s3 l.length cs) ∧ Hid (TkC wr (fun b => b < w.heap.size) cs l) ∧ Below w.heap.size w wr)
  case atStart => exact ⟨0, [], [], Nat.zero_le _, by omega, rfl, rfl, World.ownsRow_nil w _ _ 5, TkC.nil w _, Below.refl _ _⟩
  case round =>
    obtain ⟨k, cs, l, hk, hg, rfl, hpl, ho, tc, hb⟩ := hrel
    have HG := Lib.hid hg
    clear hg
    have hsz := hb.size
    by_cases hlt : k < ls.length
    · obtain ⟨b, off, rfl, hbB, hcap, hc⟩ := (hrd.out.below hb).at (by omega)
      obtain ⟨u, hu, ht⟩ := hrs k hlt
      have h0 := hc _ _ hu
      obtain ⟨Au, cu, rfl⟩ := ht.form
      have hbl : b < wr.heap.size := by omega
      obtain ⟨ds, rq, tk⟩ := ht
      have hrow := Lib.hid ((rq.keep (S' := fun b => b < w.heap.size) (w' := wr) fun b h1 h2 => ⟨h1, by omega, hb.block b h2⟩).rd)
      have tk1 := Lib.hid (tk.keep (S' := fun b => b < w.heap.size) (w' := wr) fun b h1 h2 => ⟨h1, by omega, hb.block b h2⟩)
      have hone := tk.oneC
      have hft : Hid (l ++ ls[k] = (ls.take (k + 1)).flatten) := by show _ = _; rw [flat_take ls k hlt, hpl.out]
      have hfl := flat_len ls (k + 1)
      rw [← hft.out, List.length_append] at hfl
      obtain ⟨p2, hp2⟩ : ∃ p2, Hid (p2 = l ++ ls[k]) := ⟨_, Lib.hid rfl⟩
      have hp3 : Hid (p2 = (ls.take (k + 1)).flatten) := hp2.out.trans hft.out
      clear hc hu rq tk
      go_wp2_with (at_builtin; refine wpList_appR _ rfl (.tmp 14) (.tmp 15) 27 45 rfl _ 5 80 Tryz.underlying27 infoTk rfl (by decide) w.heap.size rfl rfl ho.out hrow.out hone ?_ ?_ ?_ ?_)
      · unfold maxLen; omega
      · omega
      · exact hsz
      intro v3 w3 hown hg3 _
      have B3 : Below w.heap.size w w3 := hb.grown hg3 hsz fun g hg => (ho.out.lt g hg).1
      have o3 : Hid (w3.ownsRow w.heap.size 45 5 v3 p2.length (cs ++ ds)) := by show World.ownsRow _ _ _ _ _ _ _; rw [hp2.out, List.length_append]; exact hown
      have hK : Ks (fun b => b < w.heap.size) (fun b => b < w.heap.size) wr w3 := .grown hg3 fun b h1 _ => ⟨fun h => by have := (ho.out.lt b h.symm).1; omega, h1⟩
      have t3 : Hid (TkC w3 (fun b => b < w.heap.size) (cs ++ ds) p2) := by show TkC _ _ _ _; rw [hp2.out]; exact (tc.out.keep hK).app (tk1.out.keep hK)
      clear hown hg3 hK tk1 hrow ho tc hft hfl hone hp2 hpl
      go_wp2
      go_roundg (ls.length - (k + 1))
      case measure => have := HG.out; omega
      case rel => exact ⟨k + 1, cs ++ ds, p2, by omega, rfl, by go_num, hp3, o3, t3, B3⟩
    · have e : k = ls.length := by omega
      subst e
      have hl : Hid (l = ls.flatten) := by have := hpl.out; rwa [List.take_length] at this
      rw [← hl.out] at gl hn
      clear hpl
      have tc2 := Lib.hid (tc.out.keep (S' := fun b => some b ≠ u3.ownBlock) (w' := wr) fun b h1 h2 => ⟨fun h => by have := (ho.out.lt b h.symm).1; omega, h2, rfl⟩)
      clear tc
      obtain ⟨A1, cap1, rfl⟩ := own_form ho.out
      clear hrd hrs HG hlt
      go_wp2
      go_loopg [6, 7, 20] l.length (fun g s6 s7 s20 wq => ∃ (k : Nat) (cs : List Value), k ≤ l.length ∧ g = l.length - k ∧ s20 = .int .i64 k ∧ Hid (wq.ownsRow w.heap.size 45 5 (.slice A1 l.length cap1) l.length cs) ∧ Hid (TkC wq (fun b => some b ≠ (Value.slice A1 l.length cap1).ownBlock) cs l) ∧ Below w.heap.size w wq)
      case atStart => exact ⟨0, cs, Nat.zero_le _, by omega, rfl, ho, tc2, hb⟩
      case round =>
        clear ho tc2 hb cs
        obtain ⟨k, cs, hk, hg, rfl, ho, tc, hb⟩ := hrel
        have HG := Lib.hid hg
        clear hg
        have hsz := hb.size
        by_cases hlt : k < l.length
        · rcases own_shape ho.out with ⟨h, h2⟩ | ⟨g, cap', h, hcap⟩
          · omega
          · simp only [Value.slice.injEq, true_and] at h
            obtain ⟨rfl, rfl⟩ := h
            have hgl := ho.out.lt g rfl
            obtain ⟨e0, e1, ⟨va, e2, rx⟩, ⟨vm, e3, rm⟩, e4⟩ := tc.out.2 k hlt
            obtain ⟨Ax, cx, rfl⟩ := rx.form
            obtain ⟨Am, cm, rfl⟩ := rm.form
            have h0 := (own_at ho.out e0).1
            have h1 := (own_at ho.out e1).1
            have h2 := (own_at ho.out e2).1
            have h3 := (own_at ho.out e3).1
            have h4 := (own_at ho.out e4).1
            have hgs := hgl.2
            have hgf := gl.out.at hlt
            have HA : Hid (∀ w', Below wr.heap.size wr w' → Calls Tryz.prog 49 #[.slice Ax l[k].a.length cx] w' fun e w'' => ∃ A3 c3, e = .returned (.slice A3 l[k].a.length c3) ∧ Hid (Rq w'' (fun b => wr.heap.size ≤ b) (.slice A3 l[k].a.length c3) 2 l[k].a.length (atC l[k].a)) ∧ Below w'.heap.size w' w'' ∧ Below wr.heap.size wr w'') := fun w' h =>
              (ownAttrs_any _ l[k].a _ w' (rx.keep (.below h)) hgf.1).mono fun e w'' ⟨v', he, hr, hb⟩ => by
                obtain ⟨A3, c3, rfl⟩ := hr.form
                exact ⟨A3, c3, he, hr.mono fun b h1 _ => Nat.le_trans h.size h1, hb, h.trans (hb.mono h.size)⟩
            have HM : Hid (∀ w', Below wr.heap.size wr w' → Calls Tryz.prog 50 #[.slice Am l[k].m.length cm] w' fun e w'' => ∃ A3 c3, e = .returned (.slice A3 l[k].m.length c3) ∧ Hid (Mks w'' (fun b => b ≠ g) (.slice A3 l[k].m.length c3) l[k].m) ∧ Below w'.heap.size w' w'' ∧ Below wr.heap.size wr w'') := fun w' h =>
              (ownMarks_any _ l[k].m _ w' (rm.keep (.below h)) hgf.2).mono fun e w'' ⟨v', he, hr, hb⟩ => by
                obtain ⟨A3, c3, rfl⟩ := hr.form
                exact ⟨A3, c3, he, hr.keep (fun b h1 h2 => ⟨by have := h.size; rcases h1 with h1 | h1 <;> first | (simpa [Value.ownBlock] using h1) | omega, h2, rfl⟩), hb, h.trans (hb.mono h.size)⟩
            clear rx rm
            have hi0 : (0 : Int) ≤ (k : Int) := by omega
            have hi1 : (k : Int) < (l.length : Int) := by omega
            have C1 := Lib.hid ((((Below.refl wr.heap.size wr).alloc (Nat.le_refl _) (.cells #[.int .i64 l[k].k, .string l[k].t, .slice Ax l[k].a.length cx, .slice Am l[k].m.length cm, .int .u8 l[k].c] 45))).drew)
            have hbox : (wr.alloc (.cells #[.int .i64 l[k].k, .string l[k].t, .slice Ax l[k].a.length cx, .slice Am l[k].m.length cm, .int .u8 l[k].c] 45)).cell? ⟨wr.heap.size, 2, none⟩ = some (.slice Ax l[k].a.length cx) ∧ (wr.alloc (.cells #[.int .i64 l[k].k, .string l[k].t, .slice Ax l[k].a.length cx, .slice Am l[k].m.length cm, .int .u8 l[k].c] 45)).cell? ⟨wr.heap.size, 3, none⟩ = some (.slice Am l[k].m.length cm) := by constructor <;> go_simp
            have hoX := Lib.hid (World.ownsRow.alloc ho.out (.cells #[.int .i64 l[k].k, .string l[k].t, .slice Ax l[k].a.length cx, .slice Am l[k].m.length cm, .int .u8 l[k].c] 45))
            go_wp2_with fail
            go_region_with (first
              | (go_at_call 49; refine (HA.out _ C1.out).mono ?_; rintro e w3 ⟨A3, c3, rfl, r3, q3, p3⟩; have B3 := Lib.hid p3; have z2 := (q3.cell (p := ⟨wr.heap.size, 2, none⟩) (by simp)).trans hbox.1; have z3 := (q3.cell (p := ⟨wr.heap.size, 3, none⟩) (by simp)).trans hbox.2; have o3 := Lib.hid (own_all hoX.out.drew q3); obtain ⟨f1, f2, f3⟩ := own_at o3.out e2; obtain ⟨f4, f5, _⟩ := own_at o3.out e3; have hs3 : wr.heap.size < w3.heap.size := by have := q3.size; simp at this; omega)
              | (go_at_call 50; refine (HM.out _ B3.out).mono ?_; rintro e w4 ⟨A4, c4', rfl, r4, q4, p4⟩; have B4 := Lib.hid p4; have o4 := Lib.hid (own_all o3.out q4); obtain ⟨k1, k2, k3⟩ := own_at o4.out e2; obtain ⟨k4, k5, _⟩ := own_at o4.out e3; have r3' := Lib.hid (r3.out.keep (.below q4))))
            all_goals
              have tc4 := tc.out.keep (.below B4.out)
              have o6 := Lib.hid (World.ownsRow.stored (World.ownsRow.stored o4.out (k * 5 + 2) (.slice A3 l[k].a.length c3)).1 (k * 5 + 3) (.slice A4 l[k].m.length c4')).1
              have t6 : Hid (TkC ((w4.setCell ⟨g, k * 5 + 2, none⟩ (.slice A3 l[k].a.length c3)).setCell ⟨g, k * 5 + 3, none⟩ (.slice A4 l[k].m.length c4')) (fun b => some b ≠ (Value.slice (some ⟨g, 0, none⟩) l.length cap1).ownBlock) ((cs.set (k * 5 + 2) (.slice A3 l[k].a.length c3)).set (k * 5 + 3) (.slice A4 l[k].m.length c4')) l) :=
                (((tc4.keep (.setCell fun b h => ⟨by simpa [Value.ownBlock] using h, h⟩)).setA k hlt (r3'.out.keep (.setCell fun b h => ⟨by omega, by simp [Value.ownBlock]; omega⟩))).keep (.setCell fun b h => ⟨by simpa [Value.ownBlock] using h, h⟩)).setM k hlt
                  ((r4.out.keep (S' := fun b => b ≠ g) (.setCell fun b h => ⟨h, h⟩)).keep (.setCell fun b h => ⟨h, by simpa [Value.ownBlock] using h⟩))
              have B6 := Lib.hid (((hb.trans (B4.out.mono hsz)).setCell (p := ⟨g, k * 5 + 2, none⟩) (by simp; omega) (.slice A3 l[k].a.length c3)).setCell (p := ⟨g, k * 5 + 3, none⟩) (by simp; omega) (.slice A4 l[k].m.length c4'))
              clear tc4 HA HM z2 z3 f1 f2 f4 f5 k1 k2 k4 k5 q3 q4 h0 h1 h2 h3 h4
              go_wp2
              go_roundg (l.length - (k + 1))
              case measure => have := HG.out; omega
              case rel => exact ⟨k + 1, _, by omega, rfl, by go_num, o6, t6, B6.out⟩
        · go_wp2
          go_ret
          rw [← hl.out]
          exact ⟨_, rfl, Tks.own ho.out tc.out.top, hb⟩
end Go.Proofs.YtkeillekikbhoaaGreatDoor

/- rows cut and put, by the program. -/
namespace Go.Proofs.YtkeillekikbhoaaGreatDoor
open Go.RowKit

def okAB (l : List Tk) (a b : Int) : Bool := decide (0 ≤ a ∧ a ≤ b ∧ b ≤ (l.length : Int))
def cutE (l : List Tk) (a b : Int) : Int := if okAB l a b = true then 0 else 8
def cutL (l : List Tk) (a b : Int) : List Tk := if okAB l a b = true then (l.drop a.toNat).take (b.toNat - a.toNat) else []
def putL (l o : List Tk) (a b : Int) : List Tk := if okAB l a b = true then l.take a.toNat ++ (o ++ l.drop b.toNat) else []
theorem okAB_no {l : List Tk} {a b : Int} (h : ¬ (0 ≤ a ∧ a ≤ b ∧ b ≤ (l.length : Int))) : cutE l a b = 8 ∧ cutL l a b = [] ∧ ∀ o, putL l o a b = [] := by
  have : okAB l a b = false := by unfold okAB; rw [decide_eq_false_iff_not]; exact h
  unfold cutE cutL putL; rw [this]; simp
theorem okAB_yes {l : List Tk} {i j : Nat} (h1 : i ≤ j) (h2 : j ≤ l.length) : cutE l i j = 0 ∧ cutL l i j = (l.drop i).take (j - i) ∧ ∀ o, putL l o i j = l.take i ++ (o ++ l.drop j) := by
  have : okAB l i j = true := by unfold okAB; rw [decide_eq_true_iff]; omega
  unfold cutE cutL putL; rw [this]; simp
theorem Tks.cap {w : World} {S : Nat → Prop} {A : Option Addr} {cap : Nat} {l : List Tk} (h : Tks w S (.slice A l.length cap) l) : l.length ≤ cap := by
  obtain ⟨_, ⟨_, _, hv0, _, h3, _⟩, _⟩ := h
  simp only [Value.slice.injEq, true_and] at hv0
  omega

set_option maxRecDepth 100000 in
set_option maxHeartbeats 2000000 in
theorem cut_any (v : Value) (l : List Tk) (S : Nat → Prop) (w : World) (hv : Tks w S v l) (gl : Hid (FineT l)) (hl : l.length ≤ 1000) (a b : Int) :
    Calls Tryz.prog 11 #[v, .int .i64 a, .int .i64 b] w fun e w' => ∃ v', e = .returned (.tuple #[v', .int .i64 (cutE l a b)]) ∧ Tks w' (fun _ => True) v' (cutL l a b) ∧ Below w.heap.size w w' := by
  obtain ⟨A, cap, rfl⟩ := hv.form
  have hcap := hv.cap
  by_cases hp : 0 ≤ a ∧ a ≤ b ∧ b ≤ (l.length : Int)
  · obtain ⟨i, rfl⟩ : ∃ q : Nat, a = q := ⟨a.toNat, by omega⟩
    obtain ⟨j, rfl⟩ : ∃ q : Nat, b = q := ⟨b.toNat, by omega⟩
    have hij : i ≤ j := by omega
    have hjl : j ≤ l.length := by omega
    have hz : Hid (true = decide (0 ≤ (i : Int) ∧ (i : Int) ≤ (j : Int) ∧ (j : Int) ≤ (l.length : Int))) := by show _ = _; simp; omega
    obtain ⟨f1, f2, _⟩ := okAB_yes hij hjl
    have F1 := Lib.hid f1
    have F2 := Lib.hid f2
    have hi0 : (0 : Int) ≤ (i : Int) := by omega
    have hi1 : (i : Int) ≤ (j : Int) := by omega
    have hi2 : (j : Int) ≤ (cap : Int) := by omega
    obtain ⟨p, hpp⟩ : ∃ p, Hid (p = (l.drop i).take (j - i)) := ⟨_, Lib.hid rfl⟩
    have hpl : p.length = j - i := by rw [hpp.out, List.length_take, List.length_drop]; omega
    have gp : Hid (FineT p) := by show FineT p; rw [hpp.out]; exact fun x hx => gl.out x (List.mem_of_mem_drop (List.mem_of_mem_take hx))
    have hT := Lib.hid (hv.sub i j hij hjl)
    rw [← hpp.out] at hT
    clear f1 f2 hp
    by_cases hci : cap = i
    · have hT2 := hT.out
      rw [if_pos hci, hci, Nat.sub_self, ← hci] at hT2
      clear hT
      have hT := Lib.hid hT2
      clear hT2
      subst hci
      go_enter Tryz.func11, Tryz.ntmps11
      go_wp2_with fail
      refine (spans_any _ l S w hv cap j true hz).mono ?_
      rintro e w1 ⟨rfl, rfl⟩
      go_wp2_with fail
      refine (joined_any _ [p] _ ⟨[.slice A (j - cap) (0)], (Rd.lit w 27 1 1 #[.slice A (j - cap) (0)] (0, 0) rfl (by omega)).mono (by simp), fun k hk => ?_⟩ (by show FineT _; simpa using gp.out) (by simp; omega) (by simp)).mono ?_
      · obtain rfl : k = 0 := by simpa using hk
        exact ⟨_, rfl, (hT.out.keep (S' := fun b => b < (w.alloc (.cells #[.slice A (j - cap) (0)] 27)).heap.size) fun b _ hb => ⟨by simp; omega, by simp; omega, ((Below.refl w.heap.size w).alloc (Nat.le_refl _) _).block b hb⟩)⟩
      rintro e w2 ⟨v2, rfl, t2, b2⟩
      have t2 := Lib.hid t2
      have B2 := ((Below.refl w.heap.size w).alloc (Nat.le_refl _) (.cells #[.slice A (j - cap) (0)] 27)).trans (b2.mono (by simp))
      clear b2
      go_wp2
      go_ret2
      exact ⟨v2, by rw [F1.out]; rfl, by rw [F2.out, ← hpp.out]; simpa using t2.out, B2⟩
    · have hT2 := hT.out
      rw [if_neg hci] at hT2
      clear hT
      have hT := Lib.hid hT2
      clear hT2
      go_enter Tryz.func11, Tryz.ntmps11
      go_wp2_with fail
      refine (spans_any _ l S w hv i j true hz).mono ?_
      rintro e w1 ⟨rfl, rfl⟩
      go_wp2_with fail
      generalize Option.map (fun x : Addr => x.add (i * 5)) A = A' at hT ⊢
      refine (joined_any _ [p] _ ⟨[.slice A' (j - i) (cap - i)], (Rd.lit w 27 1 1 #[.slice A' (j - i) (cap - i)] (0, 0) rfl (by omega)).mono (by simp), fun k hk => ?_⟩ (by show FineT _; simpa using gp.out) (by simp; omega) (by simp)).mono ?_
      · obtain rfl : k = 0 := by simpa using hk
        exact ⟨_, rfl, (hT.out.keep (S' := fun b => b < (w.alloc (.cells #[.slice A' (j - i) (cap - i)] 27)).heap.size) fun b _ hb => ⟨by simp; omega, by simp; omega, ((Below.refl w.heap.size w).alloc (Nat.le_refl _) _).block b hb⟩)⟩
      rintro e w2 ⟨v2, rfl, t2, b2⟩
      have t2 := Lib.hid t2
      have B2 := ((Below.refl w.heap.size w).alloc (Nat.le_refl _) (.cells #[.slice A' (j - i) (cap - i)] 27)).trans (b2.mono (by simp))
      clear b2
      go_wp2
      go_ret2
      exact ⟨v2, by rw [F1.out]; rfl, by rw [F2.out, ← hpp.out]; simpa using t2.out, B2⟩
  · obtain ⟨f1, f2, _⟩ := okAB_no hp
    have hz : Hid (false = decide (0 ≤ a ∧ a ≤ b ∧ b ≤ (l.length : Int))) := by show _ = _; rw [eq_comm, decide_eq_false_iff_not]; exact hp
    have F1 := Lib.hid f1
    have F2 := Lib.hid f2
    clear f1 f2 hp
    go_enter Tryz.func11, Tryz.ntmps11
    go_wp2_with fail
    refine (spans_any _ l S w hv a b false hz).mono ?_
    rintro e w1 ⟨rfl, rfl⟩
    go_wp2
    go_ret2
    exact ⟨_, by rw [F1.out]; rfl, by rw [F2.out]; exact Tks.nil _ _, Below.refl _ _⟩
end Go.Proofs.YtkeillekikbhoaaGreatDoor

/- rows put, by the program. -/
namespace Go.Proofs.YtkeillekikbhoaaGreatDoor
open Go.RowKit
set_option maxRecDepth 100000 in
set_option maxHeartbeats 4000000 in
theorem put_any (v vo : Value) (l o : List Tk) (S : Nat → Prop) (w : World) (hv : Tks w S v l) (ho : Tks w S vo o) (gl : Hid (FineT l)) (go : Hid (FineT o)) (hl : l.length ≤ 1000) (hlo : o.length ≤ 1000) (a b : Int) :
    Calls Tryz.prog 15 #[v, .int .i64 a, .int .i64 b, vo] w fun e w' => ∃ v', e = .returned (.tuple #[v', .int .i64 (cutE l a b)]) ∧ Tks w' (fun _ => True) v' (putL l o a b) ∧ Below w.heap.size w w' := by
  obtain ⟨A, cap, rfl⟩ := hv.form
  obtain ⟨B, cb, rfl⟩ := ho.form
  have hcap := hv.cap
  by_cases hp : 0 ≤ a ∧ a ≤ b ∧ b ≤ (l.length : Int)
  · obtain ⟨i, rfl⟩ : ∃ q : Nat, a = q := ⟨a.toNat, by omega⟩
    obtain ⟨j, rfl⟩ : ∃ q : Nat, b = q := ⟨b.toNat, by omega⟩
    have hij : i ≤ j := by omega
    have hjl : j ≤ l.length := by omega
    have hz : Hid (true = decide (0 ≤ (i : Int) ∧ (i : Int) ≤ (j : Int) ∧ (j : Int) ≤ (l.length : Int))) := by show _ = _; simp; omega
    obtain ⟨f1, _, f2⟩ := okAB_yes hij hjl
    have F1 := Lib.hid f1
    have F2 := Lib.hid (f2 o)
    have hi0 : (0 : Int) ≤ (i : Int) := by omega
    have hi1 : (i : Int) ≤ (cap : Int) := by omega
    have hi2 : (0 : Int) ≤ (j : Int) := by omega
    have hi3 : (j : Int) ≤ (l.length : Int) := by omega
    have hw1 : IntKind.i64.wrap ((j : Int) - (i : Int)) = (j : Int) - (i : Int) := IntWalk.i64_in _ (by omega)
    have hw2 : IntKind.i64.wrap ((l.length : Int) - ((j : Int) - (i : Int))) = (l.length : Int) - ((j : Int) - (i : Int)) := IntWalk.i64_in _ (by omega)
    have hw3 : IntKind.i64.wrap ((l.length : Int) - ((j : Int) - (i : Int)) + (o.length : Int)) = (l.length : Int) - ((j : Int) - (i : Int)) + (o.length : Int) := IntWalk.i64_in _ (by omega)
    have hle : ¬ (65536 : Int) < (l.length : Int) - ((j : Int) - (i : Int)) + (o.length : Int) := by omega
    obtain ⟨p, hpp⟩ : ∃ p, Hid (p = l.take i) := ⟨_, Lib.hid rfl⟩
    obtain ⟨q, hqq⟩ : ∃ p, Hid (p = l.drop j) := ⟨_, Lib.hid rfl⟩
    have hpl : p.length = i := by rw [hpp.out, List.length_take]; omega
    have hql : q.length = l.length - j := by rw [hqq.out, List.length_drop]
    have gp : Hid (FineT [p, o, q].flatten) := by
      show FineT _
      intro x hx
      simp only [List.flatten_cons, List.flatten_nil, List.append_nil, List.mem_append] at hx
      rcases hx with hx | hx | hx
      · rw [hpp.out] at hx; exact gl.out x (List.mem_of_mem_take hx)
      · exact go.out x hx
      · rw [hqq.out] at hx; exact gl.out x (List.mem_of_mem_drop hx)
    have hf : Hid ([p, o, q].flatten = l.take i ++ (o ++ l.drop j)) := by show _ = _; rw [hpp.out, hqq.out]; simp
    have hP2 := hv.sub 0 i (Nat.zero_le _) (by omega)
    have eA : (if cap = 0 then A else Option.map (fun x : Addr => x.add (0 * 5)) A) = A := by split; rfl; cases A <;> simp [addr_add_0]
    rw [List.drop_zero, Nat.sub_zero, Nat.sub_zero, ← hpp.out, eA] at hP2
    have hP := Lib.hid hP2
    have hQ2 := hv.tail j hjl
    rw [← hqq.out] at hQ2
    have hfl : (l.take i ++ (o ++ l.drop j)).length ≤ 3000 := by simp only [List.length_append, List.length_take, List.length_drop]; omega
    clear f1 f2 hp eA hP2 hpl hql
    by_cases hci : cap = j
    · rw [if_pos hci, hci, Nat.sub_self, show l.length - j = 0 by omega] at hQ2
      have hQ := Lib.hid hQ2
      clear hQ2
      subst hci
      go_enter Tryz.func15, Tryz.ntmps15
      go_wp2_with fail
      refine (spans_any _ l S w hv i cap true hz).mono ?_
      rintro e w1 ⟨rfl, rfl⟩
      go_wp2_with fail
      have HJ := Lib.hid (joined_any (.slice (some ⟨w.heap.size, 0, none⟩) 3 3) [p, o, q] (w.alloc (.cells #[.slice A i cap, .slice B o.length cb, .slice A 0 0] 27)).drew ⟨[.slice A i cap, .slice B o.length cb, .slice A 0 0], (Rd.lit w 27 1 3 #[.slice A i cap, .slice B o.length cb, .slice A 0 0] (0, 0) rfl (by omega)).mono (by simp), fun k hk => by
        have hK : ∀ {u : Value} {x : List Tk}, Tks w S u x → Tks (w.alloc (.cells #[.slice A i cap, .slice B o.length cb, .slice A 0 0] 27)).drew (fun b => b < (w.alloc (.cells #[.slice A i cap, .slice B o.length cb, .slice A 0 0] 27)).drew.heap.size) u x := fun h => h.keep fun b _ hb => ⟨by simp; omega, by simp; omega, ((Below.refl w.heap.size w).alloc (Nat.le_refl _) _).block b hb⟩
        have hk3 : k = 0 ∨ k = 1 ∨ k = 2 := by simp at hk; omega
        rcases hk3 with rfl | rfl | rfl
        · exact ⟨_, rfl, hK hP.out⟩
        · exact ⟨_, rfl, hK ho⟩
        · exact ⟨_, rfl, hK hQ.out⟩⟩ gp (by have := hfl; rw [← hf.out] at this; omega) (by simp))
      go_region_held3 (fun _ => True) (trivial) ((go_at_call 32; refine HJ.out.mono ?_; rintro e w2 ⟨v2, rfl, t2, b2⟩; have t2 := Lib.hid t2; have B2 := Lib.hid (((Below.refl w.heap.size w).alloc (Nat.le_refl _) (.cells #[.slice A i cap, .slice B o.length cb, .slice A 0 0] 27)).drew.trans (b2.mono (by simp)))))
      all_goals
        go_wp2
        go_ret2
        exact ⟨_, by rw [F1.out]; rfl, by rw [F2.out, ← hf.out]; exact t2.out, B2.out⟩
    · rw [if_neg hci] at hQ2
      have hQ := Lib.hid hQ2
      clear hQ2
      go_enter Tryz.func15, Tryz.ntmps15
      go_wp2_with fail
      refine (spans_any _ l S w hv i j true hz).mono ?_
      rintro e w1 ⟨rfl, rfl⟩
      go_wp2_with fail
      have HJ := Lib.hid (joined_any (.slice (some ⟨w.heap.size, 0, none⟩) 3 3) [p, o, q] (w.alloc (.cells #[.slice A i cap, .slice B o.length cb, .slice (Option.map (fun x : Addr => x.add (j * 5)) A) (l.length - j) (cap - j)] 27)).drew ⟨[.slice A i cap, .slice B o.length cb, .slice (Option.map (fun x : Addr => x.add (j * 5)) A) (l.length - j) (cap - j)], (Rd.lit w 27 1 3 #[.slice A i cap, .slice B o.length cb, .slice (Option.map (fun x : Addr => x.add (j * 5)) A) (l.length - j) (cap - j)] (0, 0) rfl (by omega)).mono (by simp), fun k hk => by
        have hK : ∀ {u : Value} {x : List Tk}, Tks w S u x → Tks (w.alloc (.cells #[.slice A i cap, .slice B o.length cb, .slice (Option.map (fun x : Addr => x.add (j * 5)) A) (l.length - j) (cap - j)] 27)).drew (fun b => b < (w.alloc (.cells #[.slice A i cap, .slice B o.length cb, .slice (Option.map (fun x : Addr => x.add (j * 5)) A) (l.length - j) (cap - j)] 27)).drew.heap.size) u x := fun h => h.keep fun b _ hb => ⟨by simp; omega, by simp; omega, ((Below.refl w.heap.size w).alloc (Nat.le_refl _) _).block b hb⟩
        have hk3 : k = 0 ∨ k = 1 ∨ k = 2 := by simp at hk; omega
        rcases hk3 with rfl | rfl | rfl
        · exact ⟨_, rfl, hK hP.out⟩
        · exact ⟨_, rfl, hK ho⟩
        · exact ⟨_, rfl, hK hQ.out⟩⟩ gp (by have := hfl; rw [← hf.out] at this; omega) (by simp))
      go_region_held3 (fun _ => True) (trivial) ((go_at_call 32; refine HJ.out.mono ?_; rintro e w2 ⟨v2, rfl, t2, b2⟩; have t2 := Lib.hid t2; have B2 := Lib.hid (((Below.refl w.heap.size w).alloc (Nat.le_refl _) (.cells #[.slice A i cap, .slice B o.length cb, .slice (Option.map (fun x : Addr => x.add (j * 5)) A) (l.length - j) (cap - j)] 27)).drew.trans (b2.mono (by simp)))))
      all_goals
        go_wp2
        go_ret2
        exact ⟨_, by rw [F1.out]; rfl, by rw [F2.out, ← hf.out]; exact t2.out, B2.out⟩
  · obtain ⟨f1, _, f2⟩ := okAB_no hp
    have hz : Hid (false = decide (0 ≤ a ∧ a ≤ b ∧ b ≤ (l.length : Int))) := by show _ = _; rw [eq_comm, decide_eq_false_iff_not]; exact hp
    have F1 := Lib.hid f1
    have F2 := Lib.hid (f2 o)
    clear f1 f2 hp
    go_enter Tryz.func15, Tryz.ntmps15
    go_wp2_with fail
    refine (spans_any _ l S w hv a b false hz).mono ?_
    rintro e w1 ⟨rfl, rfl⟩
    go_wp2
    go_ret2
    exact ⟨_, by rw [F1.out]; rfl, by rw [F2.out]; exact Tks.nil _ _, Below.refl _ _⟩
end Go.Proofs.YtkeillekikbhoaaGreatDoor

/- rows copied, cut and put, by the reference. -/
namespace Go.Proofs.YtkeillekikbhoaaGreatDoor
open Go.RowKit
theorem FineM.fine {l : List Mk} (h : FineM l) {k : Nat} (hk : k < l.length) : l[k].a.length ≤ 4398046511104 := h.2 _ (List.getElem_mem hk)

set_option maxRecDepth 100000 in
set_option maxHeartbeats 4000000 in
theorem refMkCopy_any (v : Value) (l : List Mk) (S : Nat → Prop) (w : World) (hv : Mks w S v l) (gl : Hid (FineM l)) :
    Calls Tryz.prog 57 #[v] w fun e w' => ∃ v', e = .returned v' ∧ Mks w' (fun b => w.heap.size ≤ b) v' l ∧ Below w.heap.size w w' := by
  obtain ⟨A, cap, rfl⟩ := hv.form
  have hml := gl.out.1
  have HV := Lib.hid (fun w' (h : Below w.heap.size w w') => hv.keep (S' := fun b => b < w.heap.size) (w' := w') fun b _ hb => ⟨hb, Nat.lt_of_lt_of_le hb h.size, h.block b hb⟩)
  clear hv
  go_enter Tryz.func57, Tryz.ntmps57
  go_wp2
  go_loopg [3, 4] l.length (fun g s3 s4 wr => ∃ (k : Nat) (cs : List Value), k ≤ l.length ∧ g = l.length - k ∧ s4 = .int .i64 k ∧ Hid (wr.ownsRow w.heap.size 85 2 s3 k cs) ∧ Hid (MkC wr (fun b => some b ≠ s3.ownBlock ∧ w.heap.size ≤ b) cs (l.take k)) ∧ Below w.heap.size w wr)
  case atStart => exact ⟨0, [], Nat.zero_le _, by omega, rfl, World.ownsRow_nil w _ _ 2, MkC.nil w _, Below.refl _ _⟩
  case round =>
    obtain ⟨k, cs, hk, hg, rfl, ho, mc, hb⟩ := hrel
    have HG := Lib.hid hg
    clear hg
    have hsz := hb.size
    by_cases hlt : k < l.length
    · obtain ⟨b, off, va, rfl, hbS, hcap, h0, h1, rx⟩ := (HV.out _ hb).at hlt
      obtain ⟨Ax, cx, rfl⟩ := rx.form
      have hbw := hbS.1
      have hbl := hbS.2
      have hft : Hid (l.take (k + 1) = l.take k ++ [l[k]]) := List.take_succ_eq_append_getElem hlt
      have hxa := gl.out.fine hlt
      obtain ⟨x, hx⟩ : ∃ x, Hid (x = l[k]) := ⟨l[k], Lib.hid rfl⟩
      rw [← hx.out] at h0 h1 rx hft hxa
      have hrx := Lib.hid rx.rd
      have hi0 : (0 : Int) ≤ (k : Int) := by omega
      have hi1 : (k : Int) < (l.length : Int) := by omega
      obtain ⟨A3, c3, rfl⟩ := own_form ho.out
      have D0 := Lib.hid ((Below.refl wr.heap.size wr).drew)
      have D1 := Lib.hid (D0.out.alloc (Nat.le_refl _) (.cells #[] 109))
      clear rx
      go_wp2
      go_region_held3 (fun w' => w'.cell? ⟨b, off + k * 2, none⟩ = some (.string x.t) ∧ w'.cell? ⟨b, off + k * 2 + 1, none⟩ = some (.slice Ax x.a.length cx))
        (first
          | exact ⟨h0, h1⟩
          | exact ⟨(D1.out.cell (p := ⟨b, off + k * 2, none⟩) hbl).trans h0, (D1.out.cell (p := ⟨b, off + k * 2 + 1, none⟩) hbl).trans h1⟩
          | exact ⟨(K5.out.cell (p := ⟨b, off + k * 2, none⟩) hbl).trans h0, (K5.out.cell (p := ⟨b, off + k * 2 + 1, none⟩) hbl).trans h1⟩
          | exact ⟨(K6.out.cell (p := ⟨b, off + k * 2, none⟩) hbl).trans h0, (K6.out.cell (p := ⟨b, off + k * 2 + 1, none⟩) hbl).trans h1⟩
          | exact ⟨(K7.out.cell (p := ⟨b, off + k * 2, none⟩) hbw).trans h0, (K7.out.cell (p := ⟨b, off + k * 2 + 1, none⟩) hbw).trans h1⟩)
        (first
          | (refine step_appR _ (by rfl) (.tmp 17) (.tmp 22) 31 109 (by rfl) _ 2 32 Tryz.underlying31 infoAt2 (by rfl) (by decide) wr.heap.size (by rfl) (by rfl) (World.ownsRow_lit (e := 109) (size := 2) wr.drew #[] 0 (Nat.le_refl _) (by omega) rfl) (Rd.below hrx.out D1.out) (atC_one x.a) (by unfold maxLen; omega) (by omega) (by simp) ?_; intro v5 w5 hown5 hg5 hat5; have o5 : Hid (w5.ownsRow wr.heap.size 109 2 v5 x.a.length (atC x.a)) := (by show World.ownsRow _ _ _ _ _ _ _; simpa using hown5); have K5 := Lib.hid (D1.out.grown hg5 (by simp) (by simp [Value.ownBlock])); obtain ⟨A5, c5, rfl⟩ := own_form o5.out; have K6 := Lib.hid (K5.out.alloc K5.out.size (.cells #[.string x.t, .slice A5 x.a.length c5] 85)); have oX := Lib.hid (World.ownsRow.alloc (own_all ho.out K5.out) (.cells #[.string x.t, .slice A5 x.a.length c5] 85)); clear hown5 hg5 hat5)
          | (refine step_appR _ (by rfl) (.tmp 11) (.tmp 25) 32 85 (by rfl) _ 2 40 Tryz.underlying32 infoMk (by rfl) (by decide) w.heap.size (by rfl) (by rfl) oX.out (Rd.lit w5 85 2 1 #[.string x.t, .slice A5 x.a.length c5] (0, 0) rfl (by omega)) (by simp [Value.oneCell']) (by unfold maxLen; omega) (by omega) (by have := K5.out.size; simp; omega) ?_; intro v7 w7 hown7 hg7 hat7; have K7 := Lib.hid ((K6.out.mono hsz).grown hg7 (by have := K5.out.size; simp; omega) fun g hg => (ho.out.lt g hg).1)))
      have hown7 := Lib.hid hown7
      have hne : ∀ b, some b ≠ (Value.slice A3 k c3).ownBlock → b < (w5.alloc (.cells #[.string x.t, .slice A5 x.a.length c5] 85)).heap.size → some b ≠ v7.ownBlock := fun b h1 h2 => by
        rcases hat7 with h | h
        · rw [h]; exact h1
        · rw [h]; intro h3; rw [Option.some.inj h3] at h2; exact absurd h2 (Nat.lt_irrefl _)
      have K67 : Ks (fun b => some b ≠ (Value.slice A3 k c3).ownBlock ∧ w.heap.size ≤ b) (fun b => some b ≠ v7.ownBlock ∧ w.heap.size ≤ b) (w5.alloc (.cells #[.string x.t, .slice A5 x.a.length c5] 85)) w7 := .grown hg7 fun b h1 h2 => ⟨h1.1, hne b h1.1 h2, h1.2⟩
      have mc6 : MkC (w5.alloc (.cells #[.string x.t, .slice A5 x.a.length c5] 85)) (fun b => some b ≠ (Value.slice A3 k c3).ownBlock ∧ w.heap.size ≤ b) cs (l.take k) := mc.out.keep (.below K6.out)
      have r6 : Rq (w5.alloc (.cells #[.string x.t, .slice A5 x.a.length c5] 85)) (fun b => some b ≠ (Value.slice A3 k c3).ownBlock ∧ w.heap.size ≤ b) (.slice A5 x.a.length c5) 2 x.a.length (atC x.a) := (own_rq o5.out).keep fun b h1 h2 => ⟨⟨fun h => by have := (ho.out.lt b h.symm).2; omega, by omega⟩, by simp; omega, ((Below.refl w5.heap.size w5).alloc (Nat.le_refl _) _).block b h2⟩
      have m7 : Hid (MkC w7 (fun b => some b ≠ v7.ownBlock ∧ w.heap.size ≤ b) (cs ++ [.string x.t, .slice A5 x.a.length c5]) (l.take (k + 1))) := by show MkC _ _ _ _; rw [hft.out]; exact (mc6.keep K67).app (MkC.one (r6.keep K67))
      have B7 := Lib.hid (hb.trans K7.out)
      clear K67 mc6 r6 hne hat7 hg7 K7 K6 K5 oX o5 D0 D1 ho mc hrx h0 h1 hft
      go_wp2
      go_roundg (l.length - (k + 1))
      case measure => have := HG.out; omega
      case rel => exact ⟨k + 1, _, by omega, rfl, by go_num, hown7, m7, B7.out⟩
    · have e : k = l.length := by omega
      subst e
      rw [List.take_length] at mc
      go_wp2
      go_ret
      exact ⟨_, rfl, ⟨cs, own_rq ho.out, mc.out.keep fun b h1 h => ⟨h1.2, h, rfl⟩⟩, hb⟩
end Go.Proofs.YtkeillekikbhoaaGreatDoor

/- rows copied by the reference. -/
namespace Go.Proofs.YtkeillekikbhoaaGreatDoor
open Go.RowKit

set_option maxRecDepth 100000 in
set_option maxHeartbeats 4000000 in
theorem refCopy_any (v : Value) (l : List Tk) (S : Nat → Prop) (w : World) (hv : Tks w S v l) (gl : Hid (FineT l)) (hl : l.length ≤ 1000) :
    Calls Tryz.prog 36 #[v] w fun e w' => ∃ v' cs, e = .returned v' ∧ w'.ownsRow w.heap.size 45 5 v' l.length cs ∧ TkC w' (fun b => some b ≠ v'.ownBlock ∧ w.heap.size ≤ b) cs l ∧ Below w.heap.size w w' := by
  obtain ⟨A, cap, rfl⟩ := hv.form
  have HV := Lib.hid (fun w' (h : Below w.heap.size w w') => hv.keep (S' := fun b => b < w.heap.size) (w' := w') fun b _ hb => ⟨hb, Nat.lt_of_lt_of_le hb h.size, h.block b hb⟩)
  clear hv
  go_enter Tryz.func36, Tryz.ntmps36
  go_wp2
  go_loopg [3, 4, 5] l.length (fun g s3 s4 s5 wr => ∃ (k : Nat) (cs : List Value), k ≤ l.length ∧ g = l.length - k ∧ s4 = .int .i64 k ∧ Hid (wr.ownsRow w.heap.size 45 5 s3 k cs) ∧ Hid (TkC wr (fun b => some b ≠ s3.ownBlock ∧ w.heap.size ≤ b) cs (l.take k)) ∧ Below w.heap.size w wr)
  case atStart => exact ⟨0, [], Nat.zero_le _, by omega, rfl, World.ownsRow_nil w _ _ 5, TkC.nil w _, Below.refl _ _⟩
  case round =>
    obtain ⟨k, cs, hk, hg, rfl, ho, mc, hb⟩ := hrel
    have HG := Lib.hid hg
    clear hg
    have hsz := hb.size
    by_cases hlt : k < l.length
    · obtain ⟨b, off, va, vm, rfl, hbS, hcap, h0, h1, h2, h3, h4, rx, rm⟩ := (HV.out _ hb).at hlt
      obtain ⟨Ax, cx, rfl⟩ := rx.form
      obtain ⟨Am, cm, rfl⟩ := rm.form
      have hbl := hbS.2
      have hft : Hid (l.take (k + 1) = l.take k ++ [l[k]]) := List.take_succ_eq_append_getElem hlt
      have hxa := gl.out.at hlt
      obtain ⟨x, hx⟩ : ∃ x, Hid (x = l[k]) := ⟨l[k], Lib.hid rfl⟩
      rw [← hx.out] at h0 h1 h2 h3 h4 rx rm hft hxa
      have hxa1 := hxa.1
      have hi0 : (0 : Int) ≤ (k : Int) := by omega
      have hi1 : (k : Int) < (l.length : Int) := by omega
      obtain ⟨A3, c3, rfl⟩ := own_form ho.out
      have D0 := Lib.hid ((Below.refl wr.heap.size wr).alloc (Nat.le_refl _) (.cells #[.int .i64 x.k, .string x.t, .slice Ax x.a.length cx, .slice Am x.m.length cm, .int .u8 x.c] 45))
      have D1 := Lib.hid ((Below.refl (wr.alloc (.cells #[.int .i64 x.k, .string x.t, .slice Ax x.a.length cx, .slice Am x.m.length cm, .int .u8 x.c] 45)).heap.size (wr.alloc (.cells #[.int .i64 x.k, .string x.t, .slice Ax x.a.length cx, .slice Am x.m.length cm, .int .u8 x.c] 45))).drew)
      have D2 := Lib.hid (((Below.refl (wr.alloc (.cells #[.int .i64 x.k, .string x.t, .slice Ax x.a.length cx, .slice Am x.m.length cm, .int .u8 x.c] 45)).heap.size (wr.alloc (.cells #[.int .i64 x.k, .string x.t, .slice Ax x.a.length cx, .slice Am x.m.length cm, .int .u8 x.c] 45))).alloc (Nat.le_refl _) (.cells #[] 109)).drew)
      have oL : Hid (((wr.alloc (.cells #[.int .i64 x.k, .string x.t, .slice Ax x.a.length cx, .slice Am x.m.length cm, .int .u8 x.c] 45)).alloc (.cells #[] 109)).drew.ownsRow (wr.heap.size + 1) 109 2 (.slice (some ⟨wr.heap.size + 1, 0, none⟩) 0 0) 0 []) := by
        have := World.ownsRow_lit (base := wr.heap.size + 1) (e := 109) (size := 2) (wr.alloc (.cells #[.int .i64 x.k, .string x.t, .slice Ax x.a.length cx, .slice Am x.m.length cm, .int .u8 x.c] 45)) #[] 0 (by simp) (by omega) rfl
        show World.ownsRow _ _ _ _ _ _ _
        have e : (wr.alloc (.cells #[.int .i64 x.k, .string x.t, .slice Ax x.a.length cx, .slice Am x.m.length cm, .int .u8 x.c] 45)).heap.size = wr.heap.size + 1 := by simp
        rw [e] at this
        exact this
      have hrx : Hid (∀ w', Below (wr.alloc (.cells #[.int .i64 x.k, .string x.t, .slice Ax x.a.length cx, .slice Am x.m.length cm, .int .u8 x.c] 45)).heap.size (wr.alloc (.cells #[.int .i64 x.k, .string x.t, .slice Ax x.a.length cx, .slice Am x.m.length cm, .int .u8 x.c] 45)) w' → Rd w' w'.heap.size (.slice Ax x.a.length cx) 2 x.a.length (atC x.a)) := fun w' h => (rx.keep (.below (D0.out.trans (h.mono D0.out.size)))).rd
      have HM : Hid (∀ w', Below (wr.alloc (.cells #[.int .i64 x.k, .string x.t, .slice Ax x.a.length cx, .slice Am x.m.length cm, .int .u8 x.c] 45)).heap.size (wr.alloc (.cells #[.int .i64 x.k, .string x.t, .slice Ax x.a.length cx, .slice Am x.m.length cm, .int .u8 x.c] 45)) w' → Calls Tryz.prog 57 #[.slice Am x.m.length cm] w' fun e w'' => ∃ A4 c4, e = .returned (.slice A4 x.m.length c4) ∧ Hid (Mks w'' (fun b => w'.heap.size ≤ b) (.slice A4 x.m.length c4) x.m) ∧ Below w'.heap.size w' w'' ∧ Below (wr.alloc (.cells #[.int .i64 x.k, .string x.t, .slice Ax x.a.length cx, .slice Am x.m.length cm, .int .u8 x.c] 45)).heap.size (wr.alloc (.cells #[.int .i64 x.k, .string x.t, .slice Ax x.a.length cx, .slice Am x.m.length cm, .int .u8 x.c] 45)) w'') := fun w' h =>
        (refMkCopy_any _ x.m _ w' (rm.keep (.below (D0.out.trans (h.mono D0.out.size)))) hxa.2).mono fun e w'' ⟨v', he, hr, hb⟩ => by
          obtain ⟨A4, c4, rfl⟩ := hr.form
          exact ⟨A4, c4, he, hr, hb, h.trans (hb.mono h.size)⟩
      have hz : Hid (∀ w', Below (wr.alloc (.cells #[.int .i64 x.k, .string x.t, .slice Ax x.a.length cx, .slice Am x.m.length cm, .int .u8 x.c] 45)).heap.size (wr.alloc (.cells #[.int .i64 x.k, .string x.t, .slice Ax x.a.length cx, .slice Am x.m.length cm, .int .u8 x.c] 45)) w' → (w'.cell? ⟨wr.heap.size, 0, none⟩ = some (.int .i64 x.k) ∧ w'.cell? ⟨wr.heap.size, 1, none⟩ = some (.string x.t) ∧ w'.cell? ⟨wr.heap.size, 2, none⟩ = some (.slice Ax x.a.length cx) ∧ w'.cell? ⟨wr.heap.size, 3, none⟩ = some (.slice Am x.m.length cm) ∧ w'.cell? ⟨wr.heap.size, 4, none⟩ = some (.int .u8 x.c)) ∧ w'.frozen? ⟨wr.heap.size, 2, none⟩ = false ∧ w'.frozen? ⟨wr.heap.size, 3, none⟩ = false ∧ wr.heap.size < w'.heap.size) := fun w' h => by
        have hs := h.size
        simp at hs
        refine ⟨five_cells ((h.block _ (by simp)).trans (heap_alloc_new wr _)), ?_, ?_, by omega⟩
        · exact (h.frozen (p := ⟨wr.heap.size, 2, none⟩) (by simp)).trans (by go_simp)
        · exact (h.frozen (p := ⟨wr.heap.size, 3, none⟩) (by simp)).trans (by go_simp)
      clear rx rm
      go_wp2_with fail
      go_region_law (first
        | (refine step_appR _ (by rfl) (.tmp 16) (.tmp 18) 31 109 (by rfl) _ 2 32 Tryz.underlying31 infoAt2 (by rfl) (by decide) (wr.heap.size + 1) (by rfl) (by rfl) oL.out (hrx.out _ D2.out) (atC_one x.a) (by unfold maxLen; omega) (by omega) (by simp) ?_; intro v5 w5 hown5 hg5 hat5; have o5 : Hid (w5.ownsRow (wr.heap.size + 1) 109 2 v5 x.a.length (atC x.a)) := (by show World.ownsRow _ _ _ _ _ _ _; simpa using hown5); have K5 := Lib.hid (D2.out.grown hg5 (by simp) (by simp [Value.ownBlock])); obtain ⟨A5, c5, rfl⟩ := own_form o5.out; obtain ⟨⟨y0, y1, y2, y3, y4⟩, y5, y6, y7⟩ := hz.out _ K5.out; clear hown5 hg5 hat5)
        | (go_simp; go_at_call 57; refine (HM.out _ K5.out).mono ?_; rintro e w6 ⟨A4, c4, rfl, m6, q6, p6⟩; have K6 := Lib.hid p6; obtain ⟨⟨z0, z1, z2, z3, z4⟩, z5, z6, z7⟩ := hz.out _ K6.out; have r6 := Lib.hid ((own_rq o5.out).keep (.below q6))))
      all_goals
        have K8 := Lib.hid (((D0.out.trans (K6.out.mono D0.out.size)).setCell (p := ⟨wr.heap.size, 2, none⟩) (Nat.le_refl _) (.slice A5 x.a.length c5)).setCell (p := ⟨wr.heap.size, 3, none⟩) (Nat.le_refl _) (.slice A4 x.m.length c4))
        have hs8 : ((w6.setCell ⟨wr.heap.size, 2, none⟩ (.slice A5 x.a.length c5)).setCell ⟨wr.heap.size, 3, none⟩ (.slice A4 x.m.length c4)).heap.size = w6.heap.size := by simp
        have hz6 : wr.heap.size < w6.heap.size := z7
        have o9 := Lib.hid (World.ownsRow.alloc (own_all ho.out K8.out) (.cells #[.int .i64 x.k, .string x.t, .slice A5 x.a.length c5, .slice A4 x.m.length c4, .int .u8 x.c] 45))
        have mc9 := Lib.hid ((mc.out.keep (.below K8.out)).keep (Ks.alloc (S := fun b => some b ≠ (Value.slice A3 k c3).ownBlock ∧ w.heap.size ≤ b) (.cells #[.int .i64 x.k, .string x.t, .slice A5 x.a.length c5, .slice A4 x.m.length c4, .int .u8 x.c] 45)))
        have hfar : ∀ b, wr.heap.size + 1 ≤ b → some b ≠ (Value.slice A3 k c3).ownBlock ∧ w.heap.size ≤ b := fun b h => ⟨fun h2 => by have := (ho.out.lt b h2.symm).2; omega, by omega⟩
        have r9 := Lib.hid (((r6.out.keep (S' := fun b => wr.heap.size + 1 ≤ b) (.setCell (u := .slice A5 x.a.length c5) (g := wr.heap.size) (j := 2) fun b h => ⟨by omega, h⟩)).keep (S' := fun b => some b ≠ (Value.slice A3 k c3).ownBlock ∧ w.heap.size ≤ b) (.setCell (u := .slice A4 x.m.length c4) (g := wr.heap.size) (j := 3) fun b h => ⟨by omega, hfar b h⟩)).keep (Ks.alloc (.cells #[.int .i64 x.k, .string x.t, .slice A5 x.a.length c5, .slice A4 x.m.length c4, .int .u8 x.c] 45)))
        have m9 := Lib.hid (((m6.out.keep (S' := fun b => wr.heap.size + 1 ≤ b) (.setCell (u := .slice A5 x.a.length c5) (g := wr.heap.size) (j := 2) fun b h => ⟨by omega, by omega⟩)).keep (S' := fun b => some b ≠ (Value.slice A3 k c3).ownBlock ∧ w.heap.size ≤ b) (.setCell (u := .slice A4 x.m.length c4) (g := wr.heap.size) (j := 3) fun b h => ⟨by omega, hfar b h⟩)).keep (Ks.alloc (.cells #[.int .i64 x.k, .string x.t, .slice A5 x.a.length c5, .slice A4 x.m.length c4, .int .u8 x.c] 45)))
        have K9 := Lib.hid (K8.out.alloc K8.out.size (.cells #[.int .i64 x.k, .string x.t, .slice A5 x.a.length c5, .slice A4 x.m.length c4, .int .u8 x.c] 45))
        have rd9 := Rd.lit ((w6.setCell ⟨wr.heap.size, 2, none⟩ (.slice A5 x.a.length c5)).setCell ⟨wr.heap.size, 3, none⟩ (.slice A4 x.m.length c4)) 45 5 1 #[.int .i64 x.k, .string x.t, .slice A5 x.a.length c5, .slice A4 x.m.length c4, .int .u8 x.c] (0, 0) rfl (by omega)
        rw [hs8] at rd9
        have RD9 := Lib.hid rd9
        clear rd9 hs8
        clear HM hz hrx oL D0 D1 D2 K5 K6 r6 m6 h0 h1 h2 h3 h4
        go_wp2_with (at_builtin; refine wpList_appR _ rfl (.tmp 25) (.tmp 27) 27 45 rfl _ 5 80 Tryz.underlying27 infoTk rfl (by decide) w.heap.size rfl rfl o9.out RD9.out ?_ ?_ ?_ ?_ ?_)
        · simp [Value.oneCell']
        · unfold maxLen; omega
        · omega
        · first
            | omega
            | (simp; omega)
        intro v10 w10 hown10 hg10 hat10
        have o10 := Lib.hid hown10
        have hne : ∀ b, some b ≠ (Value.slice A3 k c3).ownBlock → b < (((w6.setCell ⟨wr.heap.size, 2, none⟩ (.slice A5 x.a.length c5)).setCell ⟨wr.heap.size, 3, none⟩ (.slice A4 x.m.length c4)).alloc (.cells #[.int .i64 x.k, .string x.t, .slice A5 x.a.length c5, .slice A4 x.m.length c4, .int .u8 x.c] 45)).heap.size → some b ≠ v10.ownBlock := fun b h1 h2 => by
          rcases hat10 with h | h
          · rw [h]; exact h1
          · rw [h]; intro h3; rw [Option.some.inj h3] at h2; simp at h2
        have K10 : Ks (fun b => some b ≠ (Value.slice A3 k c3).ownBlock ∧ w.heap.size ≤ b) (fun b => some b ≠ v10.ownBlock ∧ w.heap.size ≤ b) (((w6.setCell ⟨wr.heap.size, 2, none⟩ (.slice A5 x.a.length c5)).setCell ⟨wr.heap.size, 3, none⟩ (.slice A4 x.m.length c4)).alloc (.cells #[.int .i64 x.k, .string x.t, .slice A5 x.a.length c5, .slice A4 x.m.length c4, .int .u8 x.c] 45)) w10 := .grown hg10 fun b h1 h2 => ⟨h1.1, hne b h1.1 h2, h1.2⟩
        have t10 : Hid (TkC w10 (fun b => some b ≠ v10.ownBlock ∧ w.heap.size ≤ b) (cs ++ [.int .i64 x.k, .string x.t, .slice A5 x.a.length c5, .slice A4 x.m.length c4, .int .u8 x.c]) (l.take (k + 1))) := by show TkC _ _ _ _; rw [hft.out]; exact (mc9.out.keep K10).app (TkC.one (r9.out.keep K10) (m9.out.keep K10))
        have B10 := Lib.hid (hb.trans ((K9.out.mono hsz).grown hg10 (Nat.le_trans hsz K9.out.size) fun g hg => (ho.out.lt g hg).1))
        clear K10 hne hat10 hg10 K9 K8 o9 mc9 r9 m9 ho mc hown10
        go_wp2
        go_roundg (l.length - (k + 1))
        case measure => have := HG.out; omega
        case rel => exact ⟨k + 1, _, by omega, rfl, by go_num, o10, t10, B10.out⟩
    · have e : k = l.length := by omega
      subst e
      rw [List.take_length] at mc
      go_wp2
      go_ret
      exact ⟨_, cs, rfl, ho.out, mc.out, hb⟩
end Go.Proofs.YtkeillekikbhoaaGreatDoor

/- rows cut by the reference. -/
namespace Go.Proofs.YtkeillekikbhoaaGreatDoor
open Go.RowKit
set_option maxRecDepth 100000 in
set_option maxHeartbeats 2000000 in
theorem refCut_any (v : Value) (l : List Tk) (S : Nat → Prop) (w : World) (hv : Tks w S v l) (gl : Hid (FineT l)) (hl : l.length ≤ 1000) (a b : Int) :
    Calls Tryz.prog 14 #[v, .int .i64 a, .int .i64 b] w fun e w' => ∃ v', e = .returned (.tuple #[v', .int .i64 (cutE l a b)]) ∧ Tks w' (fun _ => True) v' (cutL l a b) ∧ Below w.heap.size w w' := by
  obtain ⟨A, cap, rfl⟩ := hv.form
  have hcap := hv.cap
  by_cases h1 : a < 0
  · obtain ⟨f1, f2, _⟩ := okAB_no (l := l) (a := a) (b := b) (by omega)
    have F1 := Lib.hid f1
    have F2 := Lib.hid f2
    clear f1 f2
    go_enter Tryz.func14, Tryz.ntmps14
    go_wp2
    go_ret2
    exact ⟨_, by rw [F1.out]; rfl, by rw [F2.out]; exact Tks.nil _ _, Below.refl _ _⟩
  have h1' : decide (a < 0) = false := by rw [decide_eq_false_iff_not]; exact h1
  by_cases h2 : b < a
  · obtain ⟨f1, f2, _⟩ := okAB_no (l := l) (a := a) (b := b) (by omega)
    have F1 := Lib.hid f1
    have F2 := Lib.hid f2
    clear f1 f2 h1
    go_enter Tryz.func14, Tryz.ntmps14
    go_wp2
    go_ret2
    exact ⟨_, by rw [F1.out]; rfl, by rw [F2.out]; exact Tks.nil _ _, Below.refl _ _⟩
  have h2' : decide (b < a) = false := by rw [decide_eq_false_iff_not]; exact h2
  by_cases h3 : (l.length : Int) < b
  · obtain ⟨f1, f2, _⟩ := okAB_no (l := l) (a := a) (b := b) (by omega)
    have F1 := Lib.hid f1
    have F2 := Lib.hid f2
    clear f1 f2 h1 h2
    go_enter Tryz.func14, Tryz.ntmps14
    go_wp2
    go_ret2
    exact ⟨_, by rw [F1.out]; rfl, by rw [F2.out]; exact Tks.nil _ _, Below.refl _ _⟩
  have h3' : decide ((l.length : Int) < b) = false := by rw [decide_eq_false_iff_not]; exact h3
  obtain ⟨i, rfl⟩ : ∃ q : Nat, a = q := ⟨a.toNat, by omega⟩
  obtain ⟨j, rfl⟩ : ∃ q : Nat, b = q := ⟨b.toNat, by omega⟩
  have hij : i ≤ j := by omega
  have hjl : j ≤ l.length := by omega
  have g1 : decide ((i : Int) < 0) = false := by rw [decide_eq_false_iff_not]; omega
  have g2 : decide (j < i) = false := by rw [decide_eq_false_iff_not]; omega
  have g3 : decide (l.length < j) = false := by rw [decide_eq_false_iff_not]; omega
  obtain ⟨f1, f2, _⟩ := okAB_yes hij hjl
  have F1 := Lib.hid f1
  have F2 := Lib.hid f2
  have hi0 : (0 : Int) ≤ (i : Int) := by omega
  have hi1 : (i : Int) ≤ (j : Int) := by omega
  have hi2 : (j : Int) ≤ (cap : Int) := by omega
  obtain ⟨p, hpp⟩ : ∃ p, Hid (p = (l.drop i).take (j - i)) := ⟨_, Lib.hid rfl⟩
  have hpl2 : p.length ≤ 1000 := by rw [hpp.out, List.length_take, List.length_drop]; omega
  have gp : Hid (FineT p) := by show FineT p; rw [hpp.out]; exact fun x hx => gl.out x (List.mem_of_mem_drop (List.mem_of_mem_take hx))
  have hT := Lib.hid (hv.sub i j hij hjl)
  rw [← hpp.out] at hT
  clear f1 f2 h1 h2 h3
  by_cases hci : cap = i
  · have hT2 := hT.out
    rw [if_pos hci, hci, Nat.sub_self, ← hci] at hT2
    clear hT
    have hT := Lib.hid hT2
    clear hT2
    subst hci
    go_enter Tryz.func14, Tryz.ntmps14
    go_wp2_with fail
    refine (refCopy_any _ p S w hT.out gp hpl2).mono ?_
    rintro e w2 ⟨v2, cs2, rfl, o2, t2, b2⟩
    have T2 : Hid (Tks w2 (fun _ => True) v2 p) := Tks.own o2 t2.top
    clear o2 t2
    go_wp2
    go_ret2
    exact ⟨v2, by rw [F1.out]; rfl, by rw [F2.out, ← hpp.out]; exact T2.out, b2⟩
  · have hT2 := hT.out
    rw [if_neg hci] at hT2
    clear hT
    have hT := Lib.hid hT2
    clear hT2
    go_enter Tryz.func14, Tryz.ntmps14
    go_wp2_with fail
    refine (refCopy_any _ p S w hT.out gp hpl2).mono ?_
    rintro e w2 ⟨v2, cs2, rfl, o2, t2, b2⟩
    have T2 : Hid (Tks w2 (fun _ => True) v2 p) := Tks.own o2 t2.top
    clear o2 t2
    go_wp2
    go_ret2
    exact ⟨v2, by rw [F1.out]; rfl, by rw [F2.out, ← hpp.out]; exact T2.out, b2⟩
end Go.Proofs.YtkeillekikbhoaaGreatDoor

/- rows put by the reference. -/
namespace Go.Proofs.YtkeillekikbhoaaGreatDoor
open Go.RowKit
theorem copy_form (v : Value) (l : List Tk) (S : Nat → Prop) {w : World} (w' : World) (hv : Tks w' S v l) (gl : Hid (FineT l)) (hl : l.length ≤ 1000) (h : Below w.heap.size w w') :
    Calls Tryz.prog 36 #[v] w' fun e w'' => ∃ A' c' cs, e = .returned (.slice A' l.length c') ∧ Hid (w''.ownsRow w'.heap.size 45 5 (.slice A' l.length c') l.length cs) ∧ Hid (TkC w'' (fun b => some b ≠ (Value.slice A' l.length c').ownBlock ∧ w'.heap.size ≤ b) cs l) ∧ Below w'.heap.size w' w'' ∧ Below w.heap.size w w'' :=
  (refCopy_any v l S w' hv gl hl).mono fun e w'' ⟨v', cs, he, ho, ht, hb⟩ => by
    obtain ⟨A', c', rfl⟩ := own_form ho
    exact ⟨A', c', cs, he, ho, ht, hb, h.trans (hb.mono h.size)⟩
/-- one row behind the other: the elements' lists are elsewhere -/
theorem join_two {w w' : World} {B : Nat} {v v' : Value} {cs ds : List Value} {l m : List Tk} (hg : w.grownBy w' v.ownBlock) (hat : v'.ownBlock = v.ownBlock ∨ v'.ownBlock = some w.heap.size)
    (t1 : TkC w (fun b => some b ≠ v.ownBlock ∧ B ≤ b) cs l) (t2 : TkC w (fun b => some b ≠ v.ownBlock ∧ B ≤ b) ds m) : TkC w' (fun b => some b ≠ v'.ownBlock ∧ B ≤ b) (cs ++ ds) (l ++ m) := by
  have hK : Ks (fun b => some b ≠ v.ownBlock ∧ B ≤ b) (fun b => some b ≠ v'.ownBlock ∧ B ≤ b) w w' := .grown hg fun b h1 h2 => ⟨h1.1, by
    rcases hat with h | h
    · rw [h]; exact h1.1
    · rw [h]; intro h3; rw [Option.some.inj h3] at h2; exact absurd h2 (Nat.lt_irrefl _), h1.2⟩
  exact (t1.keep hK).app (t2.keep hK)

set_option maxRecDepth 100000 in
set_option maxHeartbeats 4000000 in
theorem refPut_any (v vo : Value) (l o : List Tk) (S : Nat → Prop) (w : World) (hv : Tks w S v l) (ho : Tks w S vo o) (gl : Hid (FineT l)) (go : Hid (FineT o)) (hl : l.length ≤ 1000) (hlo : o.length ≤ 1000) (a b : Int) :
    Calls Tryz.prog 16 #[v, .int .i64 a, .int .i64 b, vo] w fun e w' => ∃ v', e = .returned (.tuple #[v', .int .i64 (cutE l a b)]) ∧ Tks w' (fun _ => True) v' (putL l o a b) ∧ Below w.heap.size w w' := by
  obtain ⟨A, cap, rfl⟩ := hv.form
  obtain ⟨B, cb, rfl⟩ := ho.form
  have hcap := hv.cap
  by_cases h1 : a < 0
  · obtain ⟨f1, _, f2⟩ := okAB_no (l := l) (a := a) (b := b) (by omega)
    have F1 := Lib.hid f1
    have F2 := Lib.hid (f2 o)
    clear f1 f2
    go_enter Tryz.func16, Tryz.ntmps16
    go_wp2
    go_ret2
    exact ⟨_, by rw [F1.out]; rfl, by rw [F2.out]; exact Tks.nil _ _, Below.refl _ _⟩
  have h1' : decide (a < 0) = false := by rw [decide_eq_false_iff_not]; exact h1
  by_cases h2 : b < a
  · obtain ⟨f1, _, f2⟩ := okAB_no (l := l) (a := a) (b := b) (by omega)
    have F1 := Lib.hid f1
    have F2 := Lib.hid (f2 o)
    clear f1 f2 h1
    go_enter Tryz.func16, Tryz.ntmps16
    go_wp2
    go_ret2
    exact ⟨_, by rw [F1.out]; rfl, by rw [F2.out]; exact Tks.nil _ _, Below.refl _ _⟩
  have h2' : decide (b < a) = false := by rw [decide_eq_false_iff_not]; exact h2
  by_cases h3 : (l.length : Int) < b
  · obtain ⟨f1, _, f2⟩ := okAB_no (l := l) (a := a) (b := b) (by omega)
    have F1 := Lib.hid f1
    have F2 := Lib.hid (f2 o)
    clear f1 f2 h1 h2
    go_enter Tryz.func16, Tryz.ntmps16
    go_wp2
    go_ret2
    exact ⟨_, by rw [F1.out]; rfl, by rw [F2.out]; exact Tks.nil _ _, Below.refl _ _⟩
  obtain ⟨i, rfl⟩ : ∃ q : Nat, a = q := ⟨a.toNat, by omega⟩
  obtain ⟨j, rfl⟩ : ∃ q : Nat, b = q := ⟨b.toNat, by omega⟩
  have hij : i ≤ j := by omega
  have hjl : j ≤ l.length := by omega
  have g1 : decide ((i : Int) < 0) = false := by rw [decide_eq_false_iff_not]; omega
  have g2 : decide (j < i) = false := by rw [decide_eq_false_iff_not]; omega
  have g3 : decide (l.length < j) = false := by rw [decide_eq_false_iff_not]; omega
  obtain ⟨f1, _, f2⟩ := okAB_yes hij hjl
  have F1 := Lib.hid f1
  have F2 := Lib.hid (f2 o)
  have hi0 : (0 : Int) ≤ (i : Int) := by omega
  have hi1 : (i : Int) ≤ (cap : Int) := by omega
  have hi2 : (0 : Int) ≤ (j : Int) := by omega
  have hi3 : (j : Int) ≤ (l.length : Int) := by omega
  have hw1 : IntKind.i64.wrap ((j : Int) - (i : Int)) = (j : Int) - (i : Int) := IntWalk.i64_in _ (by omega)
  have hw2 : IntKind.i64.wrap ((l.length : Int) - ((j : Int) - (i : Int))) = (l.length : Int) - ((j : Int) - (i : Int)) := IntWalk.i64_in _ (by omega)
  have hw3 : IntKind.i64.wrap ((l.length : Int) - ((j : Int) - (i : Int)) + (o.length : Int)) = (l.length : Int) - ((j : Int) - (i : Int)) + (o.length : Int) := IntWalk.i64_in _ (by omega)
  have hle : ¬ (65536 : Int) < (l.length : Int) - ((j : Int) - (i : Int)) + (o.length : Int) := by omega
  obtain ⟨p, hpp⟩ : ∃ p, Hid (p = l.take i) := ⟨_, Lib.hid rfl⟩
  obtain ⟨q, hqq⟩ : ∃ p, Hid (p = l.drop j) := ⟨_, Lib.hid rfl⟩
  have hp1 : p.length ≤ 1000 := by rw [hpp.out, List.length_take]; omega
  have hq1 : q.length ≤ 1000 := by rw [hqq.out, List.length_drop]; omega
  have gp : Hid (FineT p) := by show FineT _; rw [hpp.out]; exact fun x hx => gl.out x (List.mem_of_mem_take hx)
  have gq : Hid (FineT q) := by show FineT _; rw [hqq.out]; exact fun x hx => gl.out x (List.mem_of_mem_drop hx)
  have hP2 := hv.sub 0 i (Nat.zero_le _) (by omega)
  have eA : (if cap = 0 then A else Option.map (fun x : Addr => x.add (0 * 5)) A) = A := by split; rfl; cases A <;> simp [addr_add_0]
  rw [List.drop_zero, Nat.sub_zero, Nat.sub_zero, ← hpp.out, eA] at hP2
  have hP := Lib.hid hP2
  have hQ2 := hv.tail j hjl
  rw [← hqq.out] at hQ2
  have HC1 : Hid (∀ w', Below w.heap.size w w' → Calls Tryz.prog 36 #[.slice A i cap] w' fun e w'' => ∃ A' c' cs, e = .returned (.slice A' p.length c') ∧ Hid (w''.ownsRow w'.heap.size 45 5 (.slice A' p.length c') p.length cs) ∧ Hid (TkC w'' (fun b => some b ≠ (Value.slice A' p.length c').ownBlock ∧ w'.heap.size ≤ b) cs p) ∧ Below w'.heap.size w' w'' ∧ Below w.heap.size w w'') := fun w' h => copy_form _ p S w' (hP.out.keep (.below h)) gp hp1 h
  have HC2 : Hid (∀ w', Below w.heap.size w w' → Calls Tryz.prog 36 #[.slice B o.length cb] w' fun e w'' => ∃ A' c' cs, e = .returned (.slice A' o.length c') ∧ Hid (w''.ownsRow w'.heap.size 45 5 (.slice A' o.length c') o.length cs) ∧ Hid (TkC w'' (fun b => some b ≠ (Value.slice A' o.length c').ownBlock ∧ w'.heap.size ≤ b) cs o) ∧ Below w'.heap.size w' w'' ∧ Below w.heap.size w w'') := fun w' h => copy_form _ o S w' (ho.keep (.below h)) go hlo h
  have D0 := Lib.hid ((Below.refl w.heap.size w).drew)
  clear f1 f2 eA hP2 hP ho hv h1 h2 h3
  by_cases hci : cap = j
  · rw [if_pos hci, hci, Nat.sub_self, show l.length - j = 0 by omega] at hQ2
    have hQ := Lib.hid hQ2
    clear hQ2
    subst hci
    have HC3 : Hid (∀ w', Below w.heap.size w w' → Calls Tryz.prog 36 #[.slice A 0 0] w' fun e w'' => ∃ A' c' cs, e = .returned (.slice A' q.length c') ∧ Hid (w''.ownsRow w'.heap.size 45 5 (.slice A' q.length c') q.length cs) ∧ Hid (TkC w'' (fun b => some b ≠ (Value.slice A' q.length c').ownBlock ∧ w'.heap.size ≤ b) cs q) ∧ Below w'.heap.size w' w'' ∧ Below w.heap.size w w'') := fun w' h => copy_form _ q S w' (hQ.out.keep (.below h)) gq hq1 h
    clear hQ
    go_enter Tryz.func16, Tryz.ntmps16
    go_wp2_with fail
    go_region_law (first
      | (refine step_appR _ (by rfl) (.tmp 39) (.tmp 43) 27 45 (by rfl) _ 5 80 Tryz.underlying27 infoTk (by rfl) (by decide) w.heap.size (by rfl) (by rfl) o3'.out r4.out n4.out (by unfold maxLen; omega) (by omega) B4.out.size ?_; intro v5 w5 hown5 hg5 hat5; have o5 := Lib.hid hown5; have t5 := Lib.hid (join_two hg5 hat5 t3'.out t4'.out); have B5 := Lib.hid (B4.out.grown hg5 B4.out.size fun g hg => (o3'.out.lt g hg).1); clear hown5 hg5 hat5)
      | (go_simp; go_at_call 36; refine (HC3.out w3 B3.out).mono ?_; rintro e w4 ⟨A4, c4, cs4, rfl, o4, t4, q4, p4⟩; have B4 := Lib.hid p4; have o3' := Lib.hid (own_all o3.out q4); have t3' := Lib.hid (t3.out.keep (S' := fun b => some b ≠ (Value.slice A3 (p.length + o.length) c3).ownBlock ∧ w.heap.size ≤ b) (w' := w4) fun b h hb => ⟨h, Nat.lt_of_lt_of_le hb q4.size, q4.block b hb⟩); have t4' := Lib.hid (t4.out.keep (S' := fun b => some b ≠ (Value.slice A3 (p.length + o.length) c3).ownBlock ∧ w.heap.size ≤ b) (w' := w4) fun b h hb => ⟨⟨fun e => by have := (o3.out.lt b e.symm).2; have := h.2; omega, Nat.le_trans B3.out.size h.2⟩, hb, rfl⟩); have r4 := Lib.hid (Rd.own o4.out); have n4 := Lib.hid t4.out.oneC; clear q4 p4)
      | (refine step_appR _ (by rfl) (.tmp 36) (.tmp 38) 27 45 (by rfl) _ 5 80 Tryz.underlying27 infoTk (by rfl) (by decide) w.heap.size (by rfl) (by rfl) o1'.out r2.out n2.out (by unfold maxLen; omega) (by omega) B2.out.size ?_; intro v3 w3 hown3 hg3 hat3; have B3 := Lib.hid (B2.out.grown hg3 B2.out.size fun g hg => (o1'.out.lt g hg).1); have t3 := Lib.hid (join_two hg3 hat3 t1'.out t2'.out); have o3 := Lib.hid hown3; obtain ⟨A3, c3, rfl⟩ := own_form o3.out; clear hown3 hg3 hat3)
      | (go_simp; go_at_call 36; refine (HC2.out w1 B1.out).mono ?_; rintro e w2 ⟨A2, c2, cs2, rfl, o2, t2, q2, p2⟩; have B2 := Lib.hid p2; have o1' := Lib.hid (own_all o1.out q2); have t1' := Lib.hid (t1.out.keep (S' := fun b => some b ≠ (Value.slice A1 p.length c1).ownBlock ∧ w.heap.size ≤ b) (w' := w2) fun b h hb => ⟨h, Nat.lt_of_lt_of_le hb q2.size, q2.block b hb⟩); have t2' := Lib.hid (t2.out.keep (S' := fun b => some b ≠ (Value.slice A1 p.length c1).ownBlock ∧ w.heap.size ≤ b) (w' := w2) fun b h hb => ⟨⟨fun e => by have := (o1.out.lt b e.symm).2; have := h.2; omega, Nat.le_trans B1.out.size h.2⟩, hb, rfl⟩); have r2 := Lib.hid (Rd.own o2.out); have n2 := Lib.hid t2.out.oneC; clear q2 p2)
      | (go_simp; go_at_call 36; refine (HC1.out _ D0.out).mono ?_; rintro e w1 ⟨A1, c1, cs1, rfl, o1, t1, q1, p1⟩; have B1 := Lib.hid p1; clear q1 p1))
    all_goals
      have T5 : Hid (Tks w5 (fun _ => True) v5 ((p ++ o) ++ q)) := Tks.own (base := w.heap.size) (cs := (cs1 ++ cs2) ++ cs4) (by rw [List.length_append, List.length_append]; exact o5.out) t5.out.top
      clear o5 t5
      go_wp2
      go_ret2
      exact ⟨v5, by rw [F1.out]; rfl, by rw [F2.out, ← hpp.out, ← hqq.out, ← List.append_assoc]; exact T5.out, B5.out⟩
  · rw [if_neg hci] at hQ2
    have hQ := Lib.hid hQ2
    clear hQ2
    have HC3 : Hid (∀ w', Below w.heap.size w w' → Calls Tryz.prog 36 #[.slice (Option.map (fun x : Addr => x.add (j * 5)) A) (l.length - j) (cap - j)] w' fun e w'' => ∃ A' c' cs, e = .returned (.slice A' q.length c') ∧ Hid (w''.ownsRow w'.heap.size 45 5 (.slice A' q.length c') q.length cs) ∧ Hid (TkC w'' (fun b => some b ≠ (Value.slice A' q.length c').ownBlock ∧ w'.heap.size ≤ b) cs q) ∧ Below w'.heap.size w' w'' ∧ Below w.heap.size w w'') := fun w' h => copy_form _ q S w' (hQ.out.keep (.below h)) gq hq1 h
    clear hQ
    go_enter Tryz.func16, Tryz.ntmps16
    go_wp2_with fail
    go_region_law (first
      | (refine step_appR _ (by rfl) (.tmp 39) (.tmp 43) 27 45 (by rfl) _ 5 80 Tryz.underlying27 infoTk (by rfl) (by decide) w.heap.size (by rfl) (by rfl) o3'.out r4.out n4.out (by unfold maxLen; omega) (by omega) B4.out.size ?_; intro v5 w5 hown5 hg5 hat5; have o5 := Lib.hid hown5; have t5 := Lib.hid (join_two hg5 hat5 t3'.out t4'.out); have B5 := Lib.hid (B4.out.grown hg5 B4.out.size fun g hg => (o3'.out.lt g hg).1); clear hown5 hg5 hat5)
      | (go_simp; go_at_call 36; refine (HC3.out w3 B3.out).mono ?_; rintro e w4 ⟨A4, c4, cs4, rfl, o4, t4, q4, p4⟩; have B4 := Lib.hid p4; have o3' := Lib.hid (own_all o3.out q4); have t3' := Lib.hid (t3.out.keep (S' := fun b => some b ≠ (Value.slice A3 (p.length + o.length) c3).ownBlock ∧ w.heap.size ≤ b) (w' := w4) fun b h hb => ⟨h, Nat.lt_of_lt_of_le hb q4.size, q4.block b hb⟩); have t4' := Lib.hid (t4.out.keep (S' := fun b => some b ≠ (Value.slice A3 (p.length + o.length) c3).ownBlock ∧ w.heap.size ≤ b) (w' := w4) fun b h hb => ⟨⟨fun e => by have := (o3.out.lt b e.symm).2; have := h.2; omega, Nat.le_trans B3.out.size h.2⟩, hb, rfl⟩); have r4 := Lib.hid (Rd.own o4.out); have n4 := Lib.hid t4.out.oneC; clear q4 p4)
      | (refine step_appR _ (by rfl) (.tmp 36) (.tmp 38) 27 45 (by rfl) _ 5 80 Tryz.underlying27 infoTk (by rfl) (by decide) w.heap.size (by rfl) (by rfl) o1'.out r2.out n2.out (by unfold maxLen; omega) (by omega) B2.out.size ?_; intro v3 w3 hown3 hg3 hat3; have B3 := Lib.hid (B2.out.grown hg3 B2.out.size fun g hg => (o1'.out.lt g hg).1); have t3 := Lib.hid (join_two hg3 hat3 t1'.out t2'.out); have o3 := Lib.hid hown3; obtain ⟨A3, c3, rfl⟩ := own_form o3.out; clear hown3 hg3 hat3)
      | (go_simp; go_at_call 36; refine (HC2.out w1 B1.out).mono ?_; rintro e w2 ⟨A2, c2, cs2, rfl, o2, t2, q2, p2⟩; have B2 := Lib.hid p2; have o1' := Lib.hid (own_all o1.out q2); have t1' := Lib.hid (t1.out.keep (S' := fun b => some b ≠ (Value.slice A1 p.length c1).ownBlock ∧ w.heap.size ≤ b) (w' := w2) fun b h hb => ⟨h, Nat.lt_of_lt_of_le hb q2.size, q2.block b hb⟩); have t2' := Lib.hid (t2.out.keep (S' := fun b => some b ≠ (Value.slice A1 p.length c1).ownBlock ∧ w.heap.size ≤ b) (w' := w2) fun b h hb => ⟨⟨fun e => by have := (o1.out.lt b e.symm).2; have := h.2; omega, Nat.le_trans B1.out.size h.2⟩, hb, rfl⟩); have r2 := Lib.hid (Rd.own o2.out); have n2 := Lib.hid t2.out.oneC; clear q2 p2)
      | (go_simp; go_at_call 36; refine (HC1.out _ D0.out).mono ?_; rintro e w1 ⟨A1, c1, cs1, rfl, o1, t1, q1, p1⟩; have B1 := Lib.hid p1; clear q1 p1))
    all_goals
      have T5 : Hid (Tks w5 (fun _ => True) v5 ((p ++ o) ++ q)) := Tks.own (base := w.heap.size) (cs := (cs1 ++ cs2) ++ cs4) (by rw [List.length_append, List.length_append]; exact o5.out) t5.out.top
      clear o5 t5
      go_wp2
      go_ret2
      exact ⟨v5, by rw [F1.out]; rfl, by rw [F2.out, ← hpp.out, ← hqq.out, ← List.append_assoc]; exact T5.out, B5.out⟩
end Go.Proofs.YtkeillekikbhoaaGreatDoor

/- RowCalls walked. -/
namespace Go.Proofs.YtkeillekikbhoaaGreatDoor
open Go.RowKit
set_option maxRecDepth 100000 in
set_option maxHeartbeats 4000000 in
theorem rowCalls_walk (va vb : Value) (l m : List Tk) (a b : Int) (w : World) (hl : Tks w (fun _ => True) va l) (hm : Tks w (fun _ => True) vb m) (gl : Hid (FineT l)) (gm : Hid (FineT m))
    {e : TypeId} {fz : Nat × Nat} (hT : w.heap[0]? = some (.cells (Lib.deBruijn32tab.map fun (n : Nat) => Value.int .u8 n).toArray e fz)) {e' : TypeId} {fz' : Nat × Nat} (hT' : w.heap[3]? = some (.cells (Lib.deBruijn64tab.map fun (n : Nat) => Value.int .u8 n).toArray e' fz')) :
    Calls Tryz.prog 4 #[va, vb, .int .i64 a, .int .i64 b] w fun e w' => e = .returned (.bool true) ∧ Below w.heap.size w w' := by
  obtain ⟨A, ca, rfl⟩ := hl.form
  obtain ⟨B, cb, rfl⟩ := hm.form
  have hlive := rowLives_walk w hT hT'
  clear hT hT'
  by_cases h1 : l.length ≤ 1000
  · by_cases h2 : m.length ≤ 1000
    · obtain ⟨ce, hce⟩ : ∃ z, Hid (cutE l a b = z) := ⟨_, Lib.hid rfl⟩
      obtain ⟨c, hc⟩ : ∃ z : Int, Hid (((lft l).1 : Int) = z) := ⟨_, Lib.hid rfl⟩
      obtain ⟨d, hd⟩ : ∃ z : Int, Hid (((lft l).2 : Int) = z) := ⟨_, Lib.hid rfl⟩
      obtain ⟨x, hx⟩ : ∃ z : Int, Hid ((aheadN l m : Int) = z) := ⟨_, Lib.hid rfl⟩
      obtain ⟨y, hy⟩ : ∃ z : Int, Hid ((behindN l m : Int) = z) := ⟨_, Lib.hid rfl⟩
      obtain ⟨z, hz⟩ : ∃ z, Hid (depthN l a = z) := ⟨_, Lib.hid rfl⟩
      obtain ⟨s, hs⟩ : ∃ z, Hid (sameT l m = z) := ⟨_, Lib.hid rfl⟩
      have HL : Hid (∀ w', Below w.heap.size w w' → Tks w' (fun _ => True) (.slice A l.length ca) l) := fun w' h => hl.below h
      have HM : Hid (∀ w', Below w.heap.size w w' → Tks w' (fun _ => True) (.slice B m.length cb) m) := fun w' h => hm.below h
      have H1 : Hid (∀ w', Below w.heap.size w w' → Calls Tryz.prog 11 #[.slice A l.length ca, .int .i64 a, .int .i64 b] w' fun e w'' => ∃ v', e = .returned (.tuple #[v', .int .i64 ce]) ∧ Hid (Tks w'' (fun _ => True) v' (cutL l a b)) ∧ Below w'.heap.size w' w'' ∧ Below w.heap.size w w'') := fun w' h =>
        (cut_any _ l _ w' (HL.out w' h) gl h1 a b).mono fun e w'' ⟨v', he, ht, hb⟩ => ⟨v', by rw [he, hce.out], ht, hb, h.trans (hb.mono h.size)⟩
      have H2 : Hid (∀ w', Below w.heap.size w w' → Calls Tryz.prog 14 #[.slice A l.length ca, .int .i64 a, .int .i64 b] w' fun e w'' => ∃ v', e = .returned (.tuple #[v', .int .i64 ce]) ∧ Hid (Tks w'' (fun _ => True) v' (cutL l a b)) ∧ Below w'.heap.size w' w'' ∧ Below w.heap.size w w'') := fun w' h =>
        (refCut_any _ l _ w' (HL.out w' h) gl h1 a b).mono fun e w'' ⟨v', he, ht, hb⟩ => ⟨v', by rw [he, hce.out], ht, hb, h.trans (hb.mono h.size)⟩
      have H3 : Hid (∀ w', Below w.heap.size w w' → Calls Tryz.prog 15 #[.slice A l.length ca, .int .i64 a, .int .i64 b, .slice B m.length cb] w' fun e w'' => ∃ v', e = .returned (.tuple #[v', .int .i64 ce]) ∧ Hid (Tks w'' (fun _ => True) v' (putL l m a b)) ∧ Below w'.heap.size w' w'' ∧ Below w.heap.size w w'') := fun w' h =>
        (put_any _ _ l m _ w' (HL.out w' h) (HM.out w' h) gl gm h1 h2 a b).mono fun e w'' ⟨v', he, ht, hb⟩ => ⟨v', by rw [he, hce.out], ht, hb, h.trans (hb.mono h.size)⟩
      have H4 : Hid (∀ w', Below w.heap.size w w' → Calls Tryz.prog 16 #[.slice A l.length ca, .int .i64 a, .int .i64 b, .slice B m.length cb] w' fun e w'' => ∃ v', e = .returned (.tuple #[v', .int .i64 ce]) ∧ Hid (Tks w'' (fun _ => True) v' (putL l m a b)) ∧ Below w'.heap.size w' w'' ∧ Below w.heap.size w w'') := fun w' h =>
        (refPut_any _ _ l m _ w' (HL.out w' h) (HM.out w' h) gl gm h1 h2 a b).mono fun e w'' ⟨v', he, ht, hb⟩ => ⟨v', by rw [he, hce.out], ht, hb, h.trans (hb.mono h.size)⟩
      have H5 : Hid (∀ w', Below w.heap.size w w' → Calls Tryz.prog 9 #[.slice A l.length ca] w' fun e w'' => e = .returned (.tuple #[.int .i64 c, .int .i64 d]) ∧ Below w'.heap.size w' w'' ∧ Below w.heap.size w w'') := fun w' h =>
        (left_any _ l _ w' (HL.out w' h)).mono fun e w'' ⟨he, hb⟩ => ⟨by rw [he, hc.out, hd.out], hb, h.trans (hb.mono h.size)⟩
      have H6 : Hid (∀ w', Below w.heap.size w w' → Calls Tryz.prog 17 #[.slice A l.length ca] w' fun e w'' => e = .returned (.tuple #[.int .i64 c, .int .i64 d]) ∧ Below w'.heap.size w' w'' ∧ Below w.heap.size w w'') := fun w' h =>
        (refLeft_any _ l _ w' (HL.out w' h)).mono fun e w'' ⟨he, hb⟩ => ⟨by rw [he, hc.out, hd.out], hb, h.trans (hb.mono h.size)⟩
      have H7 : Hid (∀ w', Below w.heap.size w w' → Calls Tryz.prog 18 #[.slice A l.length ca, .slice B m.length cb] w' fun e w'' => e = .returned (.tuple #[.int .i64 x, .int .i64 y]) ∧ Below w'.heap.size w' w'' ∧ Below w.heap.size w w'') := fun w' h =>
        (alike_any _ _ l m _ w' (HL.out w' h) (HM.out w' h) gl gm).mono fun e w'' ⟨he, hb⟩ => ⟨by rw [he, hx.out, hy.out], hb, h.trans (hb.mono h.size)⟩
      have H8 : Hid (∀ w', Below w.heap.size w w' → Calls Tryz.prog 19 #[.slice A l.length ca, .slice B m.length cb] w' fun e w'' => e = .returned (.tuple #[.int .i64 x, .int .i64 y]) ∧ Below w'.heap.size w' w'' ∧ Below w.heap.size w w'') := fun w' h =>
        (refAlike_any _ _ l m _ w' (HL.out w' h) (HM.out w' h)).mono fun e w'' ⟨he, hb⟩ => ⟨by rw [he, hx.out, hy.out], hb, h.trans (hb.mono h.size)⟩
      have H9 : Hid (∀ w', Below w.heap.size w w' → Calls Tryz.prog 21 #[.slice A l.length ca, .int .i64 a] w' fun e w'' => e = .returned (.int .i64 z) ∧ Below w'.heap.size w' w'' ∧ Below w.heap.size w w'') := fun w' h =>
        (depth_any _ l _ w' (HL.out w' h) a).mono fun e w'' ⟨he, hb⟩ => ⟨by rw [he, hz.out], hb, h.trans (hb.mono h.size)⟩
      have H10 : Hid (∀ w', Below w.heap.size w w' → Calls Tryz.prog 22 #[.slice A l.length ca, .int .i64 a] w' fun e w'' => e = .returned (.int .i64 z) ∧ Below w'.heap.size w' w'' ∧ Below w.heap.size w w'') := fun w' h =>
        (refDepth_any _ l _ w' (HL.out w' h) a).mono fun e w'' ⟨he, hb⟩ => ⟨by rw [he, hz.out], hb, h.trans (hb.mono h.size)⟩
      have H11 : Hid (∀ w', Below w.heap.size w w' → Calls Tryz.prog 23 #[.slice A l.length ca, .slice B m.length cb] w' fun e w'' => e = .returned (.bool s) ∧ Below w'.heap.size w' w'' ∧ Below w.heap.size w w'') := fun w' h =>
        (rowSame_any _ _ l m _ w' (HL.out w' h) (HM.out w' h) gl gm).mono fun e w'' ⟨he, hb⟩ => ⟨by rw [he, hs.out], hb, h.trans (hb.mono h.size)⟩
      have H12 : Hid (∀ w', Below w.heap.size w w' → Calls Tryz.prog 24 #[.slice A l.length ca, .slice B m.length cb] w' fun e w'' => e = .returned (.bool s) ∧ Below w'.heap.size w' w'' ∧ Below w.heap.size w w'') := fun w' h =>
        (refSame_any _ _ l m _ w' (HL.out w' h) (HM.out w' h)).mono fun e w'' ⟨he, hb⟩ => ⟨by rw [he, hs.out], hb, h.trans (hb.mono h.size)⟩
      clear hl hm
      go_enter Tryz.func4, Tryz.ntmps4
      go_wp2_with fail
      refine hlive.mono ?_
      rintro e w0 ⟨rfl, B0⟩
      go_wp2_with fail
      refine (H1.out _ B0).mono ?_
      rintro e w1 ⟨v1, rfl, T1, q, B1⟩
      clear q B0 H1
      go_wp2_with fail
      refine (H2.out _ B1).mono ?_
      rintro e w2 ⟨v2, rfl, T2, q, B2⟩
      have T1 := Lib.hid (T1.out.below q)
      clear q B1 H2
      go_wp2_with fail
      refine (H3.out _ B2).mono ?_
      rintro e w3 ⟨v3, rfl, T3, q, B3⟩
      have T1 := Lib.hid (T1.out.below q)
      have T2 := Lib.hid (T2.out.below q)
      clear q B2 H3
      go_wp2_with fail
      refine (H4.out _ B3).mono ?_
      rintro e w4 ⟨v4, rfl, T4, q, B4⟩
      have T1 := Lib.hid (T1.out.below q)
      have T2 := Lib.hid (T2.out.below q)
      have T3 := Lib.hid (T3.out.below q)
      clear q B3 H4
      go_wp2_with fail
      refine (H5.out _ B4).mono ?_
      rintro e w5 ⟨rfl, q, B5⟩
      have T1 := Lib.hid (T1.out.below q)
      have T2 := Lib.hid (T2.out.below q)
      have T3 := Lib.hid (T3.out.below q)
      have T4 := Lib.hid (T4.out.below q)
      clear q B4 H5
      go_wp2_with fail
      refine (H6.out _ B5).mono ?_
      rintro e w6 ⟨rfl, q, B6⟩
      have T1 := Lib.hid (T1.out.below q)
      have T2 := Lib.hid (T2.out.below q)
      have T3 := Lib.hid (T3.out.below q)
      have T4 := Lib.hid (T4.out.below q)
      clear q B5 H6
      go_wp2_with fail
      refine (H7.out _ B6).mono ?_
      rintro e w7 ⟨rfl, q, B7⟩
      have T1 := Lib.hid (T1.out.below q)
      have T2 := Lib.hid (T2.out.below q)
      have T3 := Lib.hid (T3.out.below q)
      have T4 := Lib.hid (T4.out.below q)
      clear q B6 H7
      go_wp2_with fail
      refine (H8.out _ B7).mono ?_
      rintro e w8 ⟨rfl, q, B8⟩
      have T1 := Lib.hid (T1.out.below q)
      have T2 := Lib.hid (T2.out.below q)
      have T3 := Lib.hid (T3.out.below q)
      have T4 := Lib.hid (T4.out.below q)
      clear q B7 H8
      go_wp2_with fail
      refine (kitTokens_any _ _ (cutL l a b) _ w8 T1.out T2.out).mono ?_
      rintro e w9 ⟨rfl, q⟩
      have B9 := B8.trans (q.mono B8.size)
      have T3 := Lib.hid (T3.out.below q)
      have T4 := Lib.hid (T4.out.below q)
      clear q B8 T1 T2
      go_wp2_with fail
      refine (kitTokens_any _ _ (putL l m a b) _ w9 T3.out T4.out).mono ?_
      rintro e w10 ⟨rfl, q⟩
      have B10 := B9.trans (q.mono B9.size)
      clear q B9 T3 T4
      go_wp2_with fail
      refine (H9.out _ B10).mono ?_
      rintro e w11 ⟨rfl, _, B11⟩
      clear B10 H9
      go_wp2_with fail
      refine (H10.out _ B11).mono ?_
      rintro e w12 ⟨rfl, _, B12⟩
      clear B11 H10
      go_wp2_with fail
      refine (H11.out _ B12).mono ?_
      rintro e w13 ⟨rfl, _, B13⟩
      clear B12 H11
      go_wp2_with fail
      refine (H12.out _ B13).mono ?_
      rintro e w14 ⟨rfl, _, B14⟩
      clear B13 H12
      go_wp2
      go_ret
      exact ⟨rfl, B14⟩
    · have h2' : (1000 : Int) < (m.length : Int) := by omega
      go_enter Tryz.func4, Tryz.ntmps4
      go_wp2_with fail
      refine hlive.mono ?_
      rintro e w1 ⟨rfl, b1⟩
      go_wp2
      go_ret
      exact ⟨rfl, b1⟩
  · have h1' : (1000 : Int) < (l.length : Int) := by omega
    go_enter Tryz.func4, Tryz.ntmps4
    go_wp2_with fail
    refine hlive.mono ?_
    rintro e w1 ⟨rfl, b1⟩
    go_wp2
    go_ret
    exact ⟨rfl, b1⟩
end Go.Proofs.YtkeillekikbhoaaGreatDoor
