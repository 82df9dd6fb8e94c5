/- YtjajcecenflejaaGreatCz43 -/
import Derived.Test.YtjajcecenflejaaGreatCz41
import Derived.Test.YtjajcecenflejaaGreatProg
import Derived.Test.YtjajcecenflejaaGreatCz42
import Derived.LaidEqlPtr
import Derived.WalkKit
namespace Go.Proofs.YtjajcecenflejaaGreat
open Go.Ev
set_option maxRecDepth 100000
noncomputable def fl : List (Nat × Func) := [(2, Tryz.f2), (3, Tryz.f3), (4, Tryz.f4), (5, Tryz.f5), (6, Tryz.f6), (7, Tryz.f7), (8, Tryz.f8), (9, Tryz.f9), (10, Tryz.f10), (11, Tryz.f11), (12, Tryz.f12), (13, Tryz.f13), (14, Tryz.f14), (15, Tryz.f15), (16, Tryz.f16), (17, Tryz.f17), (18, Tryz.f18), (19, Tryz.f19), (20, Tryz.f20), (21, Tryz.f21), (22, Tryz.f22), (23, Tryz.f23), (24, Tryz.f24), (25, Tryz.f25), (26, Tryz.f26), (27, Tryz.f27), (28, Tryz.f28), (29, Tryz.f29), (30, Tryz.f30), (31, Tryz.f31), (32, Tryz.f32), (33, Tryz.f33), (34, Tryz.f34), (35, Tryz.f35), (36, Tryz.f36), (37, Tryz.f37), (38, Tryz.f38), (39, Tryz.f39), (40, Tryz.f40), (41, Tryz.f41), (42, Tryz.f42), (43, Tryz.f43), (44, Tryz.f44), (45, Tryz.f45), (46, Tryz.f46), (47, Tryz.f47), (48, Tryz.f48), (49, Tryz.f49), (50, Tryz.f50), (51, Tryz.f51), (52, Tryz.f52), (53, Tryz.f53), (54, Tryz.f54), (55, Tryz.f55), (56, Tryz.f56), (57, Tryz.f57), (58, Tryz.f58), (59, Tryz.f59), (60, Tryz.f60), (61, Tryz.f61), (62, Tryz.f62), (63, Tryz.f63), (64, Tryz.f64), (65, Tryz.f65), (66, Tryz.f66), (67, Tryz.f67), (68, Tryz.f68), (69, Tryz.f69), (70, Tryz.f70), (71, Tryz.f71), (72, Tryz.f72), (73, Tryz.f73), (74, Tryz.f74), (75, Tryz.f75), (76, Tryz.f76), (77, Tryz.f77), (78, Tryz.f78), (79, Tryz.f79), (80, Tryz.f80), (81, Tryz.f81), (82, Tryz.f82), (83, Tryz.f83), (84, Tryz.f84), (85, Tryz.f85), (86, Tryz.f86), (87, Tryz.f87), (88, Tryz.f88), (89, Tryz.f89), (90, Tryz.f90), (91, Tryz.f91), (92, Tryz.f92), (93, Tryz.f93), (94, Tryz.f94), (95, Tryz.f95), (96, Tryz.f96), (97, Tryz.f97), (98, Tryz.f98), (99, Tryz.f99), (100, Tryz.f100), (101, Tryz.f101), (102, Tryz.f102), (103, Tryz.f103), (104, Tryz.f104)]
theorem fl_ok : AllF Tryz.prog fl := ⟨Tryz.func2, Tryz.func3, Tryz.func4, Tryz.func5, Tryz.func6, Tryz.func7, Tryz.func8, Tryz.func9, Tryz.func10, Tryz.func11, Tryz.func12, Tryz.func13, Tryz.func14, Tryz.func15, Tryz.func16, Tryz.func17, Tryz.func18, Tryz.func19, Tryz.func20, Tryz.func21, Tryz.func22, Tryz.func23, Tryz.func24, Tryz.func25, Tryz.func26, Tryz.func27, Tryz.func28, Tryz.func29, Tryz.func30, Tryz.func31, Tryz.func32, Tryz.func33, Tryz.func34, Tryz.func35, Tryz.func36, Tryz.func37, Tryz.func38, Tryz.func39, Tryz.func40, Tryz.func41, Tryz.func42, Tryz.func43, Tryz.func44, Tryz.func45, Tryz.func46, Tryz.func47, Tryz.func48, Tryz.func49, Tryz.func50, Tryz.func51, Tryz.func52, Tryz.func53, Tryz.func54, Tryz.func55, Tryz.func56, Tryz.func57, Tryz.func58, Tryz.func59, Tryz.func60, Tryz.func61, Tryz.func62, Tryz.func63, Tryz.func64, Tryz.func65, Tryz.func66, Tryz.func67, Tryz.func68, Tryz.func69, Tryz.func70, Tryz.func71, Tryz.func72, Tryz.func73, Tryz.func74, Tryz.func75, Tryz.func76, Tryz.func77, Tryz.func78, Tryz.func79, Tryz.func80, Tryz.func81, Tryz.func82, Tryz.func83, Tryz.func84, Tryz.func85, Tryz.func86, Tryz.func87, Tryz.func88, Tryz.func89, Tryz.func90, Tryz.func91, Tryz.func92, Tryz.func93, Tryz.func94, Tryz.func95, Tryz.func96, Tryz.func97, Tryz.func98, Tryz.func99, Tryz.func100, Tryz.func101, Tryz.func102, Tryz.func103, Tryz.func104, trivial⟩
end Go.Proofs.YtjajcecenflejaaGreat
namespace Go.Ev
open Go.RowKit
noncomputable def selfI : Intr := fun a s => match a with
  | [.p b 0] => (match s.h.get b with
    | some (.cells (.p b' 0 :: _) _ _) => bif Ps.beq b b' then some (.b true, s) else none
    | _ => none)
  | _ => none
def Selfs (P : Program) (g : Nat) : Prop := ∀ (b : Nat) (w : World), w.cell? ⟨b, 0, none⟩ = some (.pointer (some ⟨b, 0, none⟩)) → Calls P g #[.pointer (some ⟨b, 0, none⟩)] w fun e w' => e = .returned (.bool true) ∧ w' = w
theorem self_ok {P : Program} {B : Nat → Prop} {W : World} {g : Nat} (hen : ∀ args w, (callFunc g args).run P w = .ok (.enter g args) w) (hc : Selfs P g) : IntrOk P B W g selfI := by
  intro vs s s' v h D R w xs r hx
  refine ⟨hen _ _, ?_⟩
  unfold selfI at h
  split at h
  · rename_i b
    obtain ⟨x0, x1, z1, z2, rfl⟩ := concL_cons.1 hx
    simp only [concL, Option.some.injEq] at z2; subst z2
    obtain ⟨k, x, hk, rfl⟩ := conc_p z1
    split at h
    · rename_i b' _ _ _ hb
      cases he : Ps.beq b b' with
      | false => rw [he] at h; cases h
      | true =>
        rw [he, cond_true] at h
        have he' := (Ps.beq_iff _ _).1 he
        subst he'
        simp only [Option.some.injEq, Prod.mk.injEq] at h
        obtain ⟨rfl, rfl⟩ := h
        obtain ⟨k', x', ys, tail, h1, h2, h3, h4, h5⟩ := cells_at r hb hk
        rw [hk] at h1
        simp only [Option.some.injEq, Prod.mk.injEq] at h1
        obtain ⟨rfl, rfl⟩ := h1
        obtain ⟨y0, y1, q1, q2, rfl⟩ := concL_cons.1 h2
        have q1' : y0 = .pointer (some ⟨k, 0, none⟩) := by rw [z1] at q1; simpa using q1.symm
        subst q1'
        refine Calls.mono (hc k w (by simp [World.cell?, h3])) ?_
        rintro ex w' ⟨rfl, rfl⟩
        exact ⟨_, rfl, came_one ⟨.b true, _, R, List.mem_cons_self, R.le_refl, rfl, r, Kept.refl B w'⟩⟩
    · cases h
  · cases h
end Go.Ev
namespace Go.Proofs.YtjajcecenflejaaGreat
open Go.RowKit Go.Ev
theorem infoRd : ∃ j, Tryz.prog.info? 159 = some j := by
  have h : (Tryz.prog.info? 159).isSome = true := by kernel_rfl
  exact Option.isSome_iff_exists.1 h
set_option maxRecDepth 100000 in
theorem made_self : Selfs Tryz.prog 102 := by
  intro g w hc
  obtain ⟨j, hj⟩ := infoRd
  have he := run_eql_ptr_same (P := Tryz.prog) w ⟨g, 0, none⟩ Tryz.underlying107 hj
  go_enter Tryz.func102, Tryz.ntmps102
  go_wp2
  go_ret
  exact ⟨rfl, rfl⟩
noncomputable def toldN : PT Intr := PT.lf.set (some selfI) (psOf 102)
theorem toldN_ok {B : Nat → Prop} {W : World} : ∀ g f, toldN.get (psOf g) = some f → IntrOk Tryz.prog B W g f :=
  tabI_ok tabI_lf (self_ok (enters_of Tryz.func102 (by kernel_rfl) rfl) made_self)
end Go.Proofs.YtjajcecenflejaaGreat
namespace Go.Proofs.YtjajcecenflejaaGreat
open Go.RowKit Go.Ev
set_option maxRecDepth 10000000 in
theorem packLives_run : goF (tabC Tryz.prog .lf 100000 fl) toldN 60 4 [] ⟨.lf, .h⟩ (fun v _ => isT v) = true := by kernel_rfl
theorem packLives_walk (w : World) : Calls Tryz.prog 4 #[] w fun e w' => e = .returned (.bool true) ∧ Below w.heap.size w w' :=
  comes_true GOk.lf (by kernel_rfl) fl_ok (fun _ _ _ => toldN_ok) 100000 60 packLives_run
end Go.Proofs.YtjajcecenflejaaGreat
