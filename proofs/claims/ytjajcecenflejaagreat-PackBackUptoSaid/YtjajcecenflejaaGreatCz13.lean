/- YtjajcecenflejaaGreatCz13 -/
import Derived.Test.YtjajcecenflejaaGreatCz12
namespace Go.Proofs.YtjajcecenflejaaGreat
open Go.RowKit
noncomputable def moP (P : Program) (t : TypeId) (m : String) : Option (FuncId × Nat) := match P.info? t with
  | some i => (match i.methods.find? (·.name == m) with
    | some d => (match d.path.toList, d.func with
      | [s], some (g, true) => (match s.deref, P.underlying s.struct with
        | true, some (.struct fs) => (match fs[s.index]? with
          | some f => (match P.underlying f.type, P.info? f.type with
            | some (.pointer _), some j => bif Nat.beq j.size 0 then none else some (g, f.offset)
            | _, _ => none)
          | none => none)
        | _, _ => none)
      | _, _ => none)
    | none => none)
  | none => none
theorem method_one {P : Program} {t : TypeId} {m : String} {g : FuncId} {off : Nat} (h : moP P t m = some (g, off)) (w : World) (k o : Nat) (y : Value) (hc : w.cell? ⟨k, o + off, none⟩ = some y) (n : Nat) (hn : n = P.types.size + 100) :
    (method n t (.pointer (some ⟨k, o, none⟩)) m).run P w = .ok (g, y) w := by
  subst hn
  unfold moP at h
  split at h
  · rename_i i hi
    split at h
    · rename_i d hd
      split at h
      · rename_i s g hp hf
        split at h
        · rename_i fs hdr hs
          split at h
          · rename_i f hfs
            split at h
            · rename_i e' j hu hj
              cases hz : Nat.beq j.size 0 with
              | true => rw [hz] at h; cases h
              | false =>
                rw [hz, cond_false] at h
                simp only [Option.some.injEq, Prod.mk.injEq] at h
                obtain ⟨rfl, rfl⟩ := h
                have hz' : j.size ≠ 0 := fun e => by rw [e] at hz; cases hz
                have hld : w.cell? ⟨k, o + f.offset, none⟩ = some y := hc
                obtain ⟨pn, psg, pth, pfn⟩ := d
                obtain ⟨st, ix, dr⟩ := s
                dsimp only at hp hf hdr hfs hs
                subst hf hdr
                have hm : i.methods.find? (fun x => x.name == m) = some ⟨pn, psg, pth, some (g, true)⟩ := hd
                have hmeth : (method ((P.types.size + 99) + 1) t (.pointer (some ⟨k, o, none⟩)) m).run P w = .ok (g, y) w := by
                  have u1 : (underlying st).run P w = .ok (.struct fs) w := run_underlying hs w
                  have u2 : (underlying f.type).run P w = .ok (.pointer e') w := run_underlying hu w
                  have u3 : (typeInfo t).run P w = .ok i w := by simp [go_sem, typeInfo, hi]
                  have u4 : (sizeOf f.type).run P w = .ok j.size w := by simp [go_sem, sizeOf, typeInfo, hj]
                  have u5 : (isAgg f.type).run P w = .ok false w := by simp only [isAgg, Sem.run_bind, u2, Result.andThen_ok, Sem.run_pure]
                  have u7 : (Addr.add ⟨k, o, none⟩ f.offset) = ⟨k, o + f.offset, none⟩ := Addr.add_lit ..
                  have u8 : (fieldPlace ⟨k, o, none⟩ f).run P w = .ok ⟨k, o + f.offset, none⟩ w := by simp only [fieldPlace, Sem.run_bind, u4, Result.andThen_ok, if_neg hz', Sem.run_pure, u7]
                  have u9 : (follow [⟨st, ix, true⟩] t (.val (.pointer (some ⟨k, o, none⟩)))).run P w = .ok (f.type, .var ⟨k, o + f.offset, none⟩) w := by
                    simp only [follow, Sem.run_bind, u1, Result.andThen_ok, hfs, if_true, Place.get, Sem.run_pure, asAddr, u8]
                  rw [method]
                  simp [u3, Result.andThen_ok, hm, hp, u9, receiverAt, u2, Place.get, loadVar, u5, hld]
                have hmeth' : (method (P.types.size + 100) t (.pointer (some ⟨k, o, none⟩)) m).run P w = .ok (g, y) w := hmeth
                exact hmeth'
            · cases h
          · cases h
        · cases h
      · cases h
    · cases h
  · cases h
theorem info_s : (Tryz.prog.info? 9).map (fun i => (i.zero, i.size, i.bytes)) = some (some (.string .empty), 1, 16) := by kernel_rfl
set_option maxRecDepth 100000 in
set_option maxHeartbeats 2000000 in
theorem rl_s (w : World) (B g q : Nat) (s : RS) (d : Int) (h : Rr w B g q s d) :
    Calls Tryz.prog 93 #[.pointer (some ⟨g, 0, none⟩), .func (.methodOf 79 "Piece") #[] #[]] w (RlT B g q w (rL rT s) d) := by
  have hN := rU_le 65536 3 s
  have HL : Hid (rL rT s = rLoop rT (rU 65536 3 s).1 [] (rU 65536 3 s).2) := rfl
  have HU := Lib.hid (upTo_any w B g q s d h 65536 3 (by decide))
  obtain ⟨⟨N, s1⟩, hr⟩ : ∃ x, x = rU 65536 3 s := ⟨_, rfl⟩
  rw [← hr] at hN HL HU
  clear hr
  simp only at hN
  obtain ⟨R, hR⟩ : ∃ x, Hid (x = rL rT s) := ⟨_, Lib.hid rfl⟩
  rw [← hR.out]
  have HR : Hid (R = rLoop rT N [] s1) := hR.out.trans HL.out
  have hlo := Lib.hid h.lo
  have hbs := h.base
  clear hR HL h
  go_enter Tryz.func93, Tryz.ntmps93
  go_wp2_with fail
  refine HU.out.mono ?_
  rintro e w1 ⟨rfl, h1, f1⟩
  have H1 := Lib.hid h1
  have F1 := Lib.hid f1
  clear h1 f1 HU
  go_wp2
  go_loopg [5, 8] N (fun n s5 s8 wk => ∃ (k : Nat) (v5 : Value) (acc : List ByteArray) (st : RS), k ≤ N ∧ n = N - k ∧ s5 = v5 ∧ s8 = .int .i64 k ∧ Hid (Rw wk w.heap.size 9 v5 k acc) ∧ Hid (Rr wk B g q st d) ∧ Hid (Fr (gq g q) (gq g q) w wk) ∧ Hid (R = rLoop rT (N - k) acc st))
  case atStart => exact ⟨0, _, [], s1, Nat.zero_le _, by omega, rfl, rfl, Rw.none _ _ _, H1.out, F1.out, HR.out⟩
  case round =>
    obtain ⟨k, v5, acc, st, hk, hn, h5, rfl, hrw, hrr, hfr, hres⟩ := hrel
    have h5 := h5.symm
    subst h5
    have HG := Lib.hid hn
    clear hn HR H1 F1
    by_cases hlt : k < N
    · have hi1 : (k : Int) < (N : Int) := by omega
      obtain ⟨m, hm⟩ : ∃ m, Hid (N - k = m + 1) := ⟨N - k - 1, by show _ = _; omega⟩
      have hm2 : Hid (N - (k + 1) = m) := by show _ = _; have := hm.out; omega
      go_wp2_with fail
      refine (well_any wr B g q st d hrr.out).mono ?_
      rintro e w' ⟨rfl, rfl⟩
      by_cases hw : st.n = 0 ∧ st.f = 0
      · have hwt : decide (st.n = 0 ∧ st.f = 0) = true := by simpa using hw
        have hnext : Hid (R = rLoop rT m (acc ++ [(rT st).1]) (rT st).2) := by show _ = _; rw [hres.out, hm.out, rLoop, if_pos hw]
        rw [hwt]
        clear hres hw hwt
        obtain ⟨⟨y, st2⟩, hy⟩ : ∃ x, x = rT st := ⟨_, rfl⟩
        have HE := rpiece_any wr B g q st d hrr.out
        unfold RdT at HE; rw [← hy] at hnext HE
        have HE := Lib.hid HE
        clear hy
        have HM := Lib.hid (method_one (P := Tryz.prog) (t := 79) (m := "Piece") (g := 59) (off := 0) (by kernel_rfl) wr g 0 _ (rr_cell0 hrr.out))
        go_wp2_with fail
        rw [HM.out]
        rotate_left
        · kernel_rfl
        go_wp2_with fail
        refine HE.out.mono ?_
        rintro e w2 ⟨rfl, hr1, hf1⟩
        try dsimp only at hr1 
        have hce : Hid (Cs w2 (fun x => wr.heap.size ≤ x) [.string y] (Cl.c y)) := by show Cs _ _ _ _; exact Cs.cons (.v _ rfl) (Cs.nil)
        have hrw2 := hrw.out.fr hf1 fun x hx => Nat.lt_of_lt_of_le (hlo.out x hx) hbs
        have hle : w.heap.size ≤ wr.heap.size := hfr.out.size
        have hle2 : wr.heap.size ≤ w2.heap.size := hf1.size
        have HR2 := Lib.hid hr1
        have HF2 := Lib.hid (hfr.out.trans hf1)
        obtain ⟨cs, ho, hcc⟩ := hrw2.ex
        have hvlt : ∀ x, v5.ownBlock = some x → x < wr.heap.size := fun x hx => by
          obtain ⟨cs', ho', _⟩ := hrw.out.ex
          exact (World.ownsRow.lt ho' x hx).2
        have HV := Lib.hid hvlt
        have HRW := Lib.hid hrw2
        have HCC := Lib.hid hcc
        have HO := Lib.hid ho
        clear hr1 hf1 hrr hfr hrw hrw2 hcc hvlt ho HE 
        go_wp2_with (at_builtin; refine wpList_appR _ rfl _ _ 66 9 rfl _ 1 16 Tryz.underlying66 info_s rfl (by decide) w.heap.size rfl rfl (World.ownsRow.alloc HO.out _) (Rd.lit w2 9 1 1 #[.string y] (0, 0) rfl (by omega)) (by simp [Value.oneCell']) ?_ ?_ ?_ ?_)
        · unfold maxLen; omega
        · omega
        · simp; omega
        intro v' w4 ho4 hg4 hat
        have hal : Below w2.heap.size w2 (w2.alloc (.cells #[.string y] 9)) := (Below.refl _ _).alloc (Nat.le_refl _) _
        have H4 : Hid (Rw w4 w.heap.size 9 v' (k + 1) (acc ++ [y])) := by
          refine Rw.more (w := w2.alloc (.cells #[.string y] 9)) (N := wr.heap.size) (HRW.out.all hal) (hce.out.keep (.below hal)) HV.out hle (HCC.out.keep (.below hal)) (by show World.ownsRow w4 w.heap.size _ 1 _ _ _; simpa using ho4) hg4 (by simpa using hat)
        have R4 : Hid (Rr w4 B g q st2 d) := (HR2.out.all hal).grown hg4 fun x hx => Nat.le_trans hbs (World.ownsRow.lt HO.out x hx).1
        have F4 : Hid (Fr (gq g q) (gq g q) w w4) := (HF2.out.alloc _).grown hg4 fun x hx => .inr (World.ownsRow.lt HO.out x hx).1
        clear ho4 hg4 hat HRW HCC HR2 HF2 HO hal HV hce
        go_wp2
        go_roundg (N - (k + 1))
        case measure => have := HG.out; omega
        case rel => exact ⟨k + 1, v', acc ++ [y], st2, by omega, rfl, rfl, by go_num, H4, R4, F4, by show _ = _; rw [hm2.out]; exact hnext.out⟩
      · have hwt : decide (st.n = 0 ∧ st.f = 0) = false := by simpa using hw
        have hend : Hid (R = ([], st)) := by show _ = _; rw [hres.out, hm.out, rLoop, if_neg hw]
        rw [hwt]
        clear hres hw hwt
        go_wp2
        go_ret
        exact ⟨_, rfl, by rw [hend.out]; exact Ls.nil _ _, by rw [hend.out]; exact hrr.out, hfr.out⟩
    · have hi1 : ¬ (k : Int) < (N : Int) := by omega
      have hend : Hid (R = (acc, st)) := by show _ = _; rw [hres.out, show N - k = 0 by omega, rLoop]
      go_wp2
      go_ret
      exact ⟨_, rfl, by rw [hend.out]; exact hrw.out.ls, by rw [hend.out]; exact hrr.out, hfr.out⟩
end Go.Proofs.YtjajcecenflejaaGreat
