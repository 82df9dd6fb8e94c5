/- match: letters under construction. -/
import Derived.Test.YtkbileabkfccgaaGreatDoorCz17

namespace Go.Proofs.YtkbileabkfccgaaGreatDoor
open Go.RowKit

theorem infoLt : (Tryz.prog.info? 112).map (fun i => (i.zero, i.size, i.bytes)) = some (some (.agg #[.int .u64 0, .slice none 0 0]), 2, 32) := by kernel_rfl
def ltC (L : Lt) : Value := ekU L.at_
/-- slice v, of a call's own from block lo on, holds the letters l; the types of each are rows of the call's own, all apart -/
def Lw (w : World) (lo : Nat) (v : Value) (l : List Lt) (ss : List Value) : Prop :=
  ss.length = l.length ∧ w.ownsRow lo 112 2 v l.length (neC ltC l ss) ∧ (∀ i (h1 : i < l.length) (h2 : i < ss.length), w.ownsRow lo 9 1 ss[i] l[i].ts.length (txC l[i].ts)) ∧
    (∀ i j (h1 : i < ss.length) (h2 : j < ss.length), i ≠ j → ss[i].ownBlock = none ∨ ss[i].ownBlock ≠ ss[j].ownBlock) ∧ ∀ i (h : i < ss.length), ss[i].ownBlock = none ∨ ss[i].ownBlock ≠ v.ownBlock
section
variable {w w' : World} {lo : Nat} {v v' s : Value} {l : List Lt} {ss : List Value}
theorem Lw.nil (w : World) (lo : Nat) : Lw w lo (.slice none 0 0) [] [] := ⟨rfl, World.ownsRow_nil w lo _ 2, fun i h => by simp at h, fun i j h => by simp at h, fun i h => by simp at h⟩
theorem Lw.form (h : Lw w lo v l ss) : ∃ A cap, v = .slice A l.length cap := own_form h.2.1
theorem Lw.all (h : Lw w lo v l ss) (hb : Below w.heap.size w w') : Lw w' lo v l ss :=
  ⟨h.1, own_all h.2.1 hb, fun i h1 h2 => own_all (h.2.2.1 i h1 h2) hb, h.2.2.2⟩
/-- another row has grown, that is none of theirs -/
theorem Lw.grown (h : Lw w lo v l ss) {row : Option Nat} (hg : w.grownBy w' row) (h1 : v.ownBlock = none ∨ v.ownBlock ≠ row) (h2 : ∀ i (hi : i < ss.length), ss[i].ownBlock = none ∨ ss[i].ownBlock ≠ row) : Lw w' lo v l ss :=
  ⟨h.1, World.ownsRow.kept h.2.1 hg h1, fun i a b => World.ownsRow.kept (h.2.2.1 i a b) hg (h2 i b), h.2.2.2⟩
/-- a letter more, that has no type yet -/
theorem Lw.new (h : Lw w lo v l ss) {x : Nat} (ho : w'.ownsRow lo 112 2 v' (l.length + 1) (neC ltC l ss ++ [ekU x, .slice none 0 0])) (hg : w.grownBy w' v.ownBlock)
    (hat : v'.ownBlock = v.ownBlock ∨ v'.ownBlock = some w.heap.size) : Lw w' lo v' (l ++ [⟨x, []⟩]) (ss ++ [.slice none 0 0]) := by
  obtain ⟨hl, h1, h2, h3, h4⟩ := h
  have hn : (Value.slice none 0 0).ownBlock = none := rfl
  refine ⟨by simp [hl], ?_, ?_, ?_, ?_⟩
  · rw [List.length_append, neC_app _ l ss _ _ hl]; exact ho
  · intro i a b
    by_cases hi : i < l.length
    · have e1 : (l ++ [(⟨x, []⟩ : Lt)])[i]'a = l[i]'hi := List.getElem_append_left hi
      have e2 : (ss ++ [Value.slice none 0 0])[i]'b = ss[i]'(by omega) := List.getElem_append_left (by omega)
      rw [e1, e2]
      exact World.ownsRow.kept (h2 i hi (by omega)) hg (h4 i (by omega))
    · obtain rfl : i = l.length := by simp at a; omega
      have e1 : (l ++ [(⟨x, []⟩ : Lt)])[l.length]'a = ⟨x, []⟩ := by simp
      have e2 : (ss ++ [Value.slice none 0 0])[l.length]'b = .slice none 0 0 := by
        rw [List.getElem_append_right (by omega)]; simp [hl]
      rw [e1, e2]
      exact World.ownsRow_nil _ _ _ _
  · intro i j a b hij
    by_cases hi : i < ss.length
    · rw [List.getElem_append_left hi]
      by_cases hj : j < ss.length
      · rw [List.getElem_append_left hj]; exact h3 i j hi hj hij
      · obtain rfl : j = ss.length := by simp at b; omega
        have e2 : (ss ++ [Value.slice none 0 0])[ss.length]'b = .slice none 0 0 := by simp
        rw [e2, hn]
        cases hb : ss[i].ownBlock <;> simp
    · obtain rfl : i = ss.length := by simp at a; omega
      have e2 : (ss ++ [Value.slice none 0 0])[ss.length]'a = .slice none 0 0 := by simp
      rw [e2]; exact .inl rfl
  · intro i a
    by_cases hi : i < ss.length
    · rw [List.getElem_append_left hi]
      rcases hat with e | e
      · rw [e]; exact h4 i hi
      · rw [e]
        rcases Option.eq_none_or_eq_some ss[i].ownBlock with hb | ⟨k, hb⟩
        · exact .inl hb
        · refine .inr fun e2 => ?_
          have := ((h2 i (by omega) hi).lt k hb).2
          rw [hb] at e2; simp at e2; omega
    · obtain rfl : i = ss.length := by simp at a; omega
      have e2 : (ss ++ [Value.slice none 0 0])[ss.length]'a = .slice none 0 0 := by simp
      rw [e2]; exact .inl rfl
theorem neC_set {f : Lt → Lt} (hf : ∀ L, ltC (f L) = ltC L) (s : Value) : ∀ (l : List Lt) (ss : List Value) (i : Nat), ss.length = l.length → i < l.length → (neC ltC l ss).set (i * 2 + 1) s = neC ltC (l.modify i f) (ss.set i s)
  | [], _, _, _, h => by simp at h
  | _ :: _, [], _, h, _ => by simp at h
  | L :: l, a :: ss, 0, _, _ => by simp [neC, hf]
  | L :: l, a :: ss, i + 1, h, hi => by
    have := neC_set hf s l ss i (by simpa using h) (by simpa using hi)
    rw [show (i + 1) * 2 + 1 = i * 2 + 1 + 1 + 1 by omega]
    simp only [neC, List.set_cons_succ, List.modify_succ_cons]
    rw [this]
/-- the cells of letter i -/
theorem Lw.at {g cap : Nat} (h : Lw w lo (.slice (some ⟨g, 0, none⟩) l.length cap) l ss) {i : Nat} (hi : i < l.length) :
    w.cell? ⟨g, i * 2, none⟩ = some (ekU l[i].at_) ∧ w.cell? ⟨g, i * 2 + 1, none⟩ = some (ss[i]'(by have := h.1; omega)) ∧ w.frozen? ⟨g, i * 2 + 1, none⟩ = false := by
  have hc := neC_get ltC l ss h.1 i hi
  refine ⟨?_, ?_, h.2.1.frozenAt _⟩
  · rw [h.2.1.cellAt _ (by omega)]; exact hc.1
  · rw [h.2.1.cellAt _ (by omega)]; exact hc.2
/-- a type more for letter i -/
theorem Lw.more {g cap : Nat} (h : Lw w lo (.slice (some ⟨g, 0, none⟩) l.length cap) l ss) {i : Nat} (hi : i < l.length) (hi2 : i < ss.length) {t : ByteArray} {o : Obj}
    (ho : w'.ownsRow lo 9 1 s (l[i].ts.length + 1) (txC l[i].ts ++ [.string t])) (hg : (w.alloc o).grownBy w' ss[i].ownBlock) (hat : s.ownBlock = ss[i].ownBlock ∨ s.ownBlock = some (w.heap.size + 1)) :
    Lw (w'.setCell ⟨g, i * 2 + 1, none⟩ s) lo (.slice (some ⟨g, 0, none⟩) l.length cap) (l.modify i fun L => ⟨L.at_, L.ts ++ [t]⟩) (ss.set i s) := by
  obtain ⟨hl, h1, h2, h3, h4⟩ := h
  have hgl := (h1.lt g rfl).2
  have hvo : (Value.slice (some ⟨g, 0, none⟩) l.length cap).ownBlock = some g := rfl
  have hsg : s.ownBlock = none ∨ s.ownBlock ≠ some g := by
    rcases hat with e | e
    · rw [e]; exact h4 i hi2
    · rw [e]; refine .inr fun e2 => ?_
      simp at e2; omega
  have hrow : w'.ownsRow lo 112 2 (.slice (some ⟨g, 0, none⟩) l.length cap) l.length (neC ltC l ss) := World.ownsRow.kept (World.ownsRow.alloc h1 o) hg (by
    rcases h4 i hi2 with e | e
    · rw [e]; exact .inr (by simp [Value.ownBlock])
    · exact .inr fun e2 => e e2.symm)
  have hne : ∀ j (hj : j < ss.length), j ≠ i → ss[j].ownBlock = none ∨ ss[j].ownBlock ≠ s.ownBlock := by
    intro j hj hji
    rcases hat with e | e
    · rw [e]; exact h3 j i hj hi2 hji
    · rcases Option.eq_none_or_eq_some ss[j].ownBlock with hb | ⟨k, hb⟩
      · exact .inl hb
      · refine .inr fun e2 => ?_
        have := ((h2 j (by omega) hj).lt k hb).2
        rw [hb, e] at e2; simp at e2; omega
  refine ⟨by simp [hl], ?_, ?_, ?_, ?_⟩
  · have := (hrow.stored (i * 2 + 1) s).1
    rw [neC_set (f := fun L => ⟨L.at_, L.ts ++ [t]⟩) (fun _ => rfl) s l ss i hl hi] at this
    rw [List.length_modify]; exact this
  · intro j a b
    have a' : j < l.length := by simpa using a
    have b' : j < ss.length := by simpa using b
    by_cases hji : j = i
    · subst hji
      have e1 : (ss.set j s)[j]'b = s := by simp
      have e2 : (l.modify j fun L => ⟨L.at_, L.ts ++ [t]⟩)[j]'a = ⟨l[j].at_, l[j].ts ++ [t]⟩ := by rw [List.getElem_modify]; simp
      rw [e1, e2]
      have h5 := own_cell ho (p := ⟨g, j * 2 + 1, none⟩) s (by
        rcases hsg with e | e
        · rw [e]; simp
        · exact e)
      simpa [txC] using h5
    · have e1 : (ss.set i s)[j]'b = ss[j]'b' := by rw [List.getElem_set_ne (fun e => hji e.symm)]
      have e2 : (l.modify i fun L => ⟨L.at_, L.ts ++ [t]⟩)[j]'a = l[j]'a' := by rw [List.getElem_modify, if_neg (fun e => hji e.symm)]
      rw [e1, e2]
      refine own_cell (World.ownsRow.kept (World.ownsRow.alloc (h2 j a' b') o) hg (h3 j i b' hi2 hji)) s ?_
      rcases h4 j b' with e | e
      · rw [e]; simp
      · rw [hvo] at e; exact e
  · intro j k a b hjk
    have a' : j < ss.length := by simpa using a
    have b' : k < ss.length := by simpa using b
    rw [List.getElem_set, List.getElem_set]
    by_cases hj : i = j
    · subst hj
      rw [if_pos rfl, if_neg hjk]
      rcases hne k b' (fun e => hjk e.symm) with e | e
      · rcases Option.eq_none_or_eq_some s.ownBlock with hb | ⟨x, hb⟩
        · exact .inl hb
        · rw [e, hb]; exact .inr (by simp)
      · exact .inr fun e2 => e e2.symm
    · rw [if_neg hj]
      by_cases hk : i = k
      · subst hk; rw [if_pos rfl]; exact hne j a' (fun e => hj e.symm)
      · rw [if_neg hk]; exact h3 j k a' b' hjk
  · intro j a
    have a' : j < ss.length := by simpa using a
    rw [List.getElem_set]
    by_cases hj : i = j
    · rw [if_pos hj, hvo]; exact hsg
    · rw [if_neg hj]; exact h4 j a'
theorem Lw.down {lo2 : Nat} (h : Lw w lo v l ss) (hl : lo2 ≤ lo) : Lw w lo2 v l ss :=
  ⟨h.1, own_mono h.2.1 hl, fun i h1 h2 => own_mono (h.2.2.1 i h1 h2) hl, h.2.2.2⟩
/-- read as letters -/
theorem Lw.lts (h : Lw w lo v l ss) : Lts w w.heap.size v l := by
  obtain ⟨hl, h1, h2, _⟩ := h
  exact ⟨ss, hl, RdS.of (Rd.own h1), fun i hi => Tx.own (h2 i hi (by omega))⟩
end
end Go.Proofs.YtkbileabkfccgaaGreatDoor
