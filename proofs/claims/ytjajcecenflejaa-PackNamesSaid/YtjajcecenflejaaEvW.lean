/- A machine that runs a Go text by reckoning: strings.Builder's copyCheck and String, told, soundly. Of no program. -/
import Derived.Test.YtjajcecenflejaaEvV
import Derived.Lib.UnsafeStr
namespace Go.Ev
open Go.RowKit

/-- copyCheck: what a builder that was not written yet comes to; one that was stays -/
noncomputable def copyCheckI (t : TypeId) : Intr := fun a s => match a with
  | [.p b 0] => (match s.h.get b with
    | some (.cells [.p0, v] e true) => bif Nat.beq e t then some (.t [], ⟨s.h.set (some (.cells [.p b 0, v] e true)) b, s.n⟩) else none
    | some (.cells [.p b' 0, _] _ _) => bif Ps.beq b b' then some (.t [], s) else none
    | _ => none)
  | _ => none
/-- values that are bytes -/
noncomputable def byteW (v : AV) : Option UInt8 := match v with
  | .i .u8 (.ofNat n) => bif Nat.ble n 255 then some (UInt8.ofNat n) else none
  | _ => none
noncomputable def bytesW : List AV → Option (List UInt8) := List.rec (some []) (fun v _ ih => match byteW v with
  | some x => (match ih with
    | some l => some (x :: l)
    | none => none)
  | none => none)
/-- String: the bytes stay for good from here on -/
noncomputable def stringI (t e8 : TypeId) : Intr := fun a s => match a with
  | [.p b 0] => (match s.h.get b with
    | some (.cells [_, .l0] e true) => bif Nat.beq e t then some (.s [], s) else none
    | some (.cells [_, .l g 0 (.succ n) c] e true) => bif Nat.beq e t then (match s.h.get g with
      | some (.cells d e' _) => bif Nat.beq e' e8 then (bif Nat.ble (.succ n) c then (bif Nat.ble (.succ n) 1000000000000 then (match Ev.part d 0 (.succ n) with
        | some d' => (match bytesW d' with
          | some l => some (.s l, ⟨s.h.set (some (.ro d e')) g, s.n⟩)
          | none => none)
        | none => none) else none) else none) else none
      | _ => none) else none
    | _ => none)
  | _ => none
/-- what copyCheck does -/
def CopyChecks (P : Program) (g t : Nat) : Prop := (∀ (b : Nat) (w : World), w.cell? ⟨b, 0, none⟩ = some (.pointer (some ⟨b, 0, none⟩)) → Calls P g #[.pointer (some ⟨b, 0, none⟩)] w fun e w' => e = .returned (.tuple #[]) ∧ w' = w) ∧
  ∀ (b : Nat) (w : World), w.cell? ⟨b, 0, none⟩ = some (.pointer none) → w.shape? b = some (t, 2) → w.frozen? ⟨b, 0, none⟩ = false → Calls P g #[.pointer (some ⟨b, 0, none⟩)] w fun e w' => e = .returned (.tuple #[]) ∧ w' = w.setCell ⟨b, 0, none⟩ (.pointer (some ⟨b, 0, none⟩))
/-- what String does -/
def Strings (P : Program) (g t e8 : Nat) : Prop := (∀ (b : Nat) (p : Value) (w : World), w.heap[b]? = some (.cells #[p, .slice none 0 0] t (0, 0)) → Calls P g #[.pointer (some ⟨b, 0, none⟩)] w fun e w' => e = .returned (.string ⟨#[]⟩) ∧ w' = w.drew) ∧
  ∀ (b k cap : Nat) (p : Value) (cur : Array Value) (l : List UInt8) (w : World), w.heap[b]? = some (.cells #[p, .slice (some ⟨k, 0, none⟩) l.length cap] t (0, 0)) → w.heap[k]? = some (.cells cur e8 (0, 0)) → l ≠ [] → l.length ≤ cap → l.length ≤ cur.size → l.length ≤ 1000000000000 →
    (∀ j x, l[j]? = some x → w.cell? ⟨k, j, none⟩ = some (.int .u8 x.toNat)) → Calls P g #[.pointer (some ⟨b, 0, none⟩)] w fun e w' => e = .returned (.string ⟨l.toArray⟩) ∧ w' = w.drew.freeze ⟨k, 0, none⟩ l.length
section
variable {P : Program} {B : Nat → Prop} {W : World}
theorem byteW_spec {R : Rf} {v : AV} {x : UInt8} (h : byteW v = some x) : conc R v = some (.int .u8 x.toNat) := by
  unfold byteW at h
  split at h
  · rename_i n
    cases hb : Nat.ble n 255 with
    | false => rw [hb] at h; cases h
    | true =>
      rw [hb, cond_true] at h
      have hn := ble_le hb
      simp only [Option.some.injEq] at h; subst h
      have : (UInt8.ofNat n).toNat = n := by simp; omega
      rw [this]; rfl
  · cases h
theorem bytesW_spec {R : Rf} : ∀ {c : List AV} {l : List UInt8}, bytesW c = some l → concL R c = some (l.map fun x => Value.int .u8 x.toNat)
  | [], l, h => by
    have h' : some [] = some l := h
    simp only [Option.some.injEq] at h'; subst h'; rfl
  | v :: c, l, h => by
    have h' : (match byteW v with
      | some x => (match bytesW c with
        | some l => some (x :: l)
        | none => none)
      | none => none) = some l := h
    split at h'
    · rename_i x hv
      split at h'
      · rename_i m hm
        simp only [Option.some.injEq] at h'; subst h'
        exact concL_cons.2 ⟨.int .u8 x.toNat, _, byteW_spec hv, bytesW_spec hm, rfl⟩
      · cases h'
    · cases h'
/-- but for one block all is as it was -/
theorem kept_one {w w' : World} {k : Nat} (hk : ¬ B k) (h1 : w'.os = w.os) (h2 : w'.tape = w.tape) (h3 : w'.output = w.output) (h4 : w'.heap.size = w.heap.size) (h5 : ∀ j, j ≠ k → w'.heap[j]? = w.heap[j]?) : Kept B w w' :=
  ⟨h1, h2, h3, by rw [h4]; exact Nat.le_refl _, fun j hj => h5 j fun e => hk (e ▸ hj)⟩
theorem copyCheck_ok {g t : Nat} (hen : ∀ args w, (callFunc g args).run P w = .ok (.enter g args) w) (hc : CopyChecks P g t) : IntrOk P B W g (copyCheckI t) := by
  intro vs s s' v h D R w xs r hx
  refine ⟨hen _ _, ?_⟩
  unfold copyCheckI at h
  split at h
  · rename_i b
    obtain ⟨x0, x1, z1, z2, rfl⟩ := concL_cons.1 hx
    simp only [concL, Option.some.injEq] at z2; subst z2
    obtain ⟨k, x, hk, rfl⟩ := conc_p z1
    split at h
    · rename_i v0 e hb
      cases he : Nat.beq e t with
      | false => rw [he] at h; cases h
      | true =>
        rw [he, cond_true] at h
        have he' := Nat.eq_of_beq_eq_true he
        subst he'
        simp only [Option.some.injEq, Prod.mk.injEq] at h
        obtain ⟨rfl, rfl⟩ := h
        obtain ⟨k', x', ys, tail, h1, h2, h3, h4, h5⟩ := cells_at r hb hk
        rw [hk] at h1
        simp only [Option.some.injEq, Prod.mk.injEq] at h1
        obtain ⟨rfl, rfl⟩ := h1
        obtain rfl := h5 rfl
        have ht : tail = [] := by simpa using h4
        subst ht
        obtain ⟨y0, y1, q1, q2, rfl⟩ := concL_cons.1 h2
        obtain ⟨y2, y3, q3, q4, rfl⟩ := concL_cons.1 q2
        simp only [concL, Option.some.injEq] at q4; subst q4
        simp only [conc, Option.some.injEq] at q1; subst q1
        simp only [List.append_nil] at h3
        refine Calls.mono (hc.2 k w (by simp [World.cell?, h3]) (by simp [World.shape?, h3]) (by simp [World.frozen?, h3])) ?_
        rintro ex w' ⟨rfl, rfl⟩
        have hkp : Kept B w (w.setCell ⟨k, 0, none⟩ (.pointer (some ⟨k, 0, none⟩))) := kept_one (r.lo b k _ hk).1 rfl rfl rfl (by simp [World.setCell]) fun j hj => Below.heap_setCell w _ _ j hj
        refine ⟨_, rfl, came_one ⟨.t [], _, R, List.mem_cons_self, R.le_refl, rfl, ?_, hkp⟩⟩
        refine r.write hb rfl hk hkp (by simp [World.setCell]) ⟨[.pointer (some ⟨k, 0, none⟩), y2], [], concL_cons.2 ⟨_, _, z1, concL_cons.2 ⟨_, _, q3, rfl, rfl⟩, rfl⟩, ?_, by simp, fun _ => rfl⟩ fun j hj => Below.heap_setCell w _ _ j hj
        simp [World.setCell, Array.getElem?_modify, h3]
    · rename_i b' _ _ _ hb
      cases he : Ps.beq b b' with
      | false => rw [he] at h; cases h
      | true =>
        rw [he, cond_true] at h
        have he' := (Ps.beq_iff _ _).1 he
        subst he'
        simp only [Option.some.injEq, Prod.mk.injEq] at h
        obtain ⟨rfl, rfl⟩ := h
        obtain ⟨k', x', ys, tail, h1, h2, h3, h4, h5⟩ := cells_at r hb hk
        rw [hk] at h1
        simp only [Option.some.injEq, Prod.mk.injEq] at h1
        obtain ⟨rfl, rfl⟩ := h1
        obtain ⟨y0, y1, q1, q2, rfl⟩ := concL_cons.1 h2
        have q1' : y0 = .pointer (some ⟨k, 0, none⟩) := by rw [z1] at q1; simpa using q1.symm
        subst q1'
        refine Calls.mono (hc.1 k w (by simp [World.cell?, h3])) ?_
        rintro ex w' ⟨rfl, rfl⟩
        exact ⟨_, rfl, came_one ⟨.t [], _, R, List.mem_cons_self, R.le_refl, rfl, r, Kept.refl B w'⟩⟩
    · cases h
  · cases h
theorem string_ok {g t e8 : Nat} (hen : ∀ args w, (callFunc g args).run P w = .ok (.enter g args) w) (hc : Strings P g t e8) : IntrOk P B W g (stringI t e8) := by
  intro vs s s' v h D R w xs r hx
  refine ⟨hen _ _, ?_⟩
  unfold stringI at h
  split at h
  · rename_i b
    obtain ⟨x0, x1, z1, z2, rfl⟩ := concL_cons.1 hx
    simp only [concL, Option.some.injEq] at z2; subst z2
    obtain ⟨k, x, hk, rfl⟩ := conc_p z1
    split at h
    · rename_i v0 e hb
      cases he : Nat.beq e t with
      | false => rw [he] at h; cases h
      | true =>
        rw [he, cond_true] at h
        have he' := Nat.eq_of_beq_eq_true he
        subst he'
        simp only [Option.some.injEq, Prod.mk.injEq] at h
        obtain ⟨rfl, rfl⟩ := h
        obtain ⟨k', x', ys, tail, h1, h2, h3, h4, h5⟩ := cells_at r hb hk
        rw [hk] at h1
        simp only [Option.some.injEq, Prod.mk.injEq] at h1
        obtain ⟨rfl, rfl⟩ := h1
        obtain rfl := h5 rfl
        have ht : tail = [] := by simpa using h4
        subst ht
        obtain ⟨y0, y1, q1, q2, rfl⟩ := concL_cons.1 h2
        obtain ⟨y2, y3, q3, q4, rfl⟩ := concL_cons.1 q2
        simp only [concL, Option.some.injEq] at q4; subst q4
        simp only [conc, Option.some.injEq] at q3; subst q3
        simp only [List.append_nil] at h3
        refine Calls.mono (hc.1 k y0 w h3) ?_
        rintro ex w' ⟨rfl, rfl⟩
        exact ⟨_, rfl, came_one ⟨.s [], _, R, List.mem_cons_self, R.le_refl, rfl, r.drew, (Kept.refl B w).drew⟩⟩
    · rename_i v0 g' n c e hb
      cases he : Nat.beq e t with
      | false => rw [he] at h; cases h
      | true =>
        rw [he, cond_true] at h
        have he' := Nat.eq_of_beq_eq_true he
        subst he'
        split at h
        · rename_i d e' ex hg
          cases he : Nat.beq e' e8 with
          | false => rw [he] at h; cases h
          | true =>
            rw [he, cond_true] at h
            have he' := Nat.eq_of_beq_eq_true he
            subst he'
            cases hn1 : Nat.ble (.succ n) c with
            | false => rw [hn1] at h; cases h
            | true =>
              cases hn2 : Nat.ble (.succ n) 1000000000000 with
              | false => rw [hn1, hn2] at h; cases h
              | true =>
                rw [hn1, hn2, cond_true, cond_true] at h
                have hn1 := ble_le hn1
                have hn2 := ble_le hn2
                split at h
                · rename_i d' hd
                  split at h
                  · rename_i l hl
                    simp only [Option.some.injEq, Prod.mk.injEq] at h
                    obtain ⟨rfl, rfl⟩ := h
                    obtain ⟨k', x', ys, tail, h1, h2, h3, h4, h5⟩ := cells_at r hb hk
                    rw [hk] at h1
                    simp only [Option.some.injEq, Prod.mk.injEq] at h1
                    obtain ⟨rfl, rfl⟩ := h1
                    obtain rfl := h5 rfl
                    have ht : tail = [] := by simpa using h4
                    subst ht
                    obtain ⟨y0, y1, q1, q2, rfl⟩ := concL_cons.1 h2
                    obtain ⟨y2, y3, q3, q4, rfl⟩ := concL_cons.1 q2
                    simp only [concL, Option.some.injEq] at q4; subst q4
                    simp only [List.append_nil] at h3
                    obtain ⟨kg, xg, hkg, rfl⟩ := conc_l q3
                    obtain ⟨kg', xg', zs, tl, g1, g2, g3, g4, g5⟩ := cells_at r hg hkg
                    rw [hkg] at g1
                    simp only [Option.some.injEq, Prod.mk.injEq] at g1
                    obtain ⟨rfl, rfl⟩ := g1
                    obtain ⟨us, u1, u2, u3⟩ := ldRow g2 g3 hd
                    have hus := bytesW_spec (R := R) hl
                    rw [u1] at hus
                    simp only [Option.some.injEq] at hus
                    subst hus
                    rw [List.length_map] at u2
                    have hdl := (part_eq hd).1
                    have hzl := concL_len g2
                    have hl0 : l ≠ [] := by rintro rfl; simp at u2
                    have h3' : w.heap[k]? = some (.cells #[y0, .slice (some ⟨kg, 0, none⟩) l.length (c + xg)] e (0, 0)) := by rw [h3, u2]
                    refine Calls.mono (hc.2 k kg (c + xg) y0 (zs ++ tl).toArray l w h3' g3 hl0 (by omega) (by simp at *; omega) (by omega) fun j y hy => ?_) ?_
                    · have := u3 j (.int .u8 y.toNat) (by simp [hy])
                      rwa [Nat.zero_add] at this
                    · rintro ex w' ⟨rfl, rfl⟩
                      have hll : l.length ≠ 0 := by omega
                      have hfz : ∀ j, j ≠ kg → (w.drew.freeze ⟨kg, 0, none⟩ l.length).heap[j]? = w.heap[j]? := fun j hj => by
                        unfold World.freeze
                        rw [if_neg hll]
                        simp only [Array.getElem?_modify]
                        rw [if_neg (fun e => hj e.symm)]; rfl
                      have hsz : (w.drew.freeze ⟨kg, 0, none⟩ l.length).heap.size = w.heap.size := by
                        unfold World.freeze
                        rw [if_neg hll]
                        exact Array.size_modify ..
                      have hkp : Kept B w (w.drew.freeze ⟨kg, 0, none⟩ l.length) := kept_one (r.lo g' kg _ hkg).1 (by unfold World.freeze; rw [if_neg hll]; rfl) (by unfold World.freeze; rw [if_neg hll]; rfl) (by unfold World.freeze; rw [if_neg hll]; rfl) hsz hfz
                      refine ⟨_, rfl, came_one ⟨.s l, _, R, List.mem_cons_self, R.le_refl, rfl, ?_, hkp⟩⟩
                      have g3' : w.drew.heap[kg]? = some (.cells (zs ++ tl).toArray e' (0, 0)) := g3
                      obtain ⟨fz, hO⟩ : ∃ fz, (w.drew.freeze ⟨kg, 0, none⟩ l.length).heap[kg]? = some (.cells (zs ++ tl).toArray e' fz) := by
                        unfold World.freeze
                        rw [if_neg hll]
                        simp only [Array.getElem?_modify, if_true, g3', Option.map_some]
                        exact ⟨_, rfl⟩
                      exact r.write hg rfl hkg hkp hsz ⟨zs, tl, fz, g2, hO⟩ hfz
                  · cases h
                · cases h
        · cases h
    · cases h
  · cases h
end
end Go.Ev
