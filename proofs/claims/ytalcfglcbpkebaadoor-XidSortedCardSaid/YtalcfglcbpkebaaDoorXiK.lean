/-
  The contracts of a reading's name, and of parsed and Parse of xid.
  Conditions: none but sizes.
-/
import Derived.Test.YtalcfglcbpkebaaDoorXiJ
namespace Go.Proofs.YtalcfglcbpkebaaDoor
open Go.RowKit
set_option linter.unusedVariables false
set_option linter.unusedSimpArgs false

theorem results_cell1 {P : Program} {fn : Func} {p : Tmp} {ty : TypeId} (h : fn.results = #[.cell p ty]) (tmps : Array Value) (w : World) (g : Nat) (t : TypeId) (cs : Array Value) (fr : Nat × Nat) (d : TypeDesc)
    (hp : tmps.getD p undef = .pointer (some ⟨g, 0, none⟩)) (hg : w.heap[g]? = some (.cells cs t fr))
    (hu : P.underlying ty = some d) (hd : (match d with | .struct _ | .array _ _ => true | _ => false) = true) (hi : (P.info? ty).map (·.size) = some cs.size) :
    (results fn tmps).run P w = .ok (.agg cs) w := by
  have hp' : tmps[p]?.getD undef = .pointer (some ⟨g, 0, none⟩) := by simpa using hp
  simp [results, h, hp', asAddr, run_loadVar_row w g t ty cs fr d hg hu hd hi]

theorem name_no {w : World} {b p s f h : Nat} {gv bv : Value} (hb : Rd w b p s f h gv bv) (hs : s ≤ 140737488355328) (hn : p ≠ 2 ∨ halfB p s = true) :
    Calls Tryd.prog 65 #[.pointer (some ⟨b, 0, none⟩)] w fun e w' => e = .returned (xidV 0 ByteArray.empty ByteArray.empty) ∧ Below w.heap.size w w' := by
  have hlt := hb.lt
  have k0 := hb.c0
  obtain ⟨W, hW⟩ : ∃ W, W = w.alloc (Obj.cells #[.int .u32 (0 : Nat), .string ⟨#[]⟩, .string ⟨#[]⟩] 24) := ⟨_, rfl⟩
  have hR1 : Rd W b p s f h gv bv := by rw [hW]; exact hb.keep (Below.heap_alloc w _ _ hb.lt)
  have hX1 : Boxed W w.heap.size 0 ⟨#[]⟩ ⟨#[]⟩ := by rw [hW]; exact Boxed.new w
  have hbl : Below w.heap.size w W := by rw [hW]; exact below_box w _
  have HH0 := half_any hR1 hs
  have k0 := hR1.c0
  have x0 := hX1.c0
  have x1 := hX1.c1
  have x2 := hX1.c2
  have f0 := hX1.froz 0
  have f1 := hX1.froz 1
  have f2 := hX1.froz 2
  have r5 := heap_setCell_same W w.heap.size 0 _ 24 (.int .u32 0) hX1
  have r6 := heap_setCell_same _ w.heap.size 1 _ 24 (.string ⟨#[]⟩) r5
  have r7 := heap_setCell_same _ w.heap.size 2 _ 24 (.string ⟨#[]⟩) r6
  have HR := Lib.hid r7
  clear r5 r6 r7
  by_cases h2 : p = 2
  · rw [hn.resolve_left (by simp [h2])] at HH0
    have HH := Lib.hid HH0
    subst h2
    clear HH0 hn
    go_enter Tryd.func65, Tryd.ntmps65
    go_wp2_with fail
    rw [show w.alloc (Obj.cells #[.int .u32 0, .string ⟨#[]⟩, .string ⟨#[]⟩] 24) = W from hW.symm]
    have HW := Lib.hid hW
    clear hW
    refine HH.out.mono ?_
    rintro e w2 ⟨rfl, rfl⟩
    go_wp2_with fail
    (try simp only [Exit.inBlock, Exit.then])
    refine bodyPost_ret (results_cell1 rfl _ _ w.heap.size 24 _ (0, 0) _ rfl HR.out Tryd.underlying24 rfl (by kernel_rfl)) rfl ⟨rfl, below_set (below_set (below_set hbl (Nat.le_refl _) _) (Nat.le_refl _) _) (Nat.le_refl _) _⟩
  · have t0 : ((p : Int) != 2) = true := by simp; omega
    have HH := Lib.hid HH0
    clear HH0 hn h2
    go_enter Tryd.func65, Tryd.ntmps65
    go_wp2_with fail
    rw [show w.alloc (Obj.cells #[.int .u32 0, .string ⟨#[]⟩, .string ⟨#[]⟩] 24) = W from hW.symm]
    (try simp only [Exit.inBlock, Exit.then])
    exact bodyPost_ret (results_cell1 rfl _ _ w.heap.size 24 _ (0, 0) _ rfl hX1 Tryd.underlying24 rfl (by kernel_rfl)) rfl ⟨rfl, hbl⟩

set_option maxRecDepth 100000 in
set_option maxHeartbeats 1000000 in
theorem name_yes {w : World} {b base mid : Nat} {t : RSt} {gv bv : Value} (hR : RdS w b base t gv bv mid) (ho : OKR t) (hs : t.s ≤ 140737488355328) (hp : t.p = 2) (hh : halfB t.p t.s = false) :
    Calls Tryd.prog 65 #[.pointer (some ⟨b, 0, none⟩)] w fun e w' => e = .returned (xidV t.f (str8 t.g) (str8 t.b)) ∧ Below w.heap.size w w' := by
  have hb := hR.rd
  have hlt := hb.lt
  have k00 : w.cell? ⟨b, 0, none⟩ = some (.int .i64 (2 : Nat)) := by rw [hb.c0, hp]
  obtain ⟨g1, _, sg⟩ := hR.og.shows
  obtain ⟨g2, _, sb2⟩ := hR.ob.shows
  obtain ⟨W, hW⟩ : ∃ W, W = w.alloc (Obj.cells #[.int .u32 (0 : Nat), .string ⟨#[]⟩, .string ⟨#[]⟩] 24) := ⟨_, rfl⟩
  have hR1 : Rd W b t.p t.s t.f t.h gv bv := by rw [hW]; exact hb.keep (Below.heap_alloc w _ _ hb.lt)
  have hX1 : Boxed W w.heap.size 0 ⟨#[]⟩ ⟨#[]⟩ := by rw [hW]; exact Boxed.new w
  have hbl : Below w.heap.size w W := by rw [hW]; exact below_box w _
  have sg1 : Shows W g1 gv t.g := sg.keep hbl.size fun hp => hbl.block _ (sg.lt hp)
  have sb1 : Shows W g2 bv t.b := sb2.keep hbl.size fun hp => hbl.block _ (sb2.lt hp)
  have hcv1 : (convert 31 9 gv).run Tryd.prog W.drew = .ok (.string (str8 t.g)) W.drew := conv_at sg1.drew
  have hcv2 : (convert 31 9 bv).run Tryd.prog W.drew = .ok (.string (str8 t.b)) W.drew := conv_at sb1.drew
  have HH0 := half_any hR1 hs
  rw [hh] at HH0
  have HH := Lib.hid HH0
  have k0 : W.cell? ⟨b, 0, none⟩ = some (.int .i64 (2 : Nat)) := by rw [hR1.c0, hp]
  have q2 : W.drew.cell? ⟨b, 2, none⟩ = _ := hR1.c2
  have q4 : W.drew.cell? ⟨b, 4, none⟩ = _ := hR1.c4
  have q5 : W.drew.cell? ⟨b, 5, none⟩ = _ := hR1.c5
  have q2' : W.cell? ⟨b, 2, none⟩ = _ := hR1.c2
  have q4' : W.cell? ⟨b, 4, none⟩ = _ := hR1.c4
  have q5' : W.cell? ⟨b, 5, none⟩ = _ := hR1.c5
  have x0 := hX1.c0
  have x1 := hX1.c1
  have x2 := hX1.c2
  have f0 := hX1.froz 0
  have f1 := hX1.froz 1
  have f2 := hX1.froz 2
  have wf : IntKind.u32.wrap (t.f : Int) = (t.f : Int) := by have := ho.f; rw [IntKind.wrap_u32]; omega
  unfold xidV
  have r5 := heap_setCell_same W.drew w.heap.size 0 _ 24 (.int .u32 t.f) hX1
  have r6 := heap_setCell_same _ w.heap.size 1 _ 24 (.string (str8 t.g)) r5
  have r7 := heap_setCell_same _ w.heap.size 2 _ 24 (.string (str8 t.b)) r6
  have HR := Lib.hid r7
  generalize str8 t.g = G at *
  generalize str8 t.b = B at *
  clear r5 r6 r7 HH0 hh hp sg sb2 sg1 sb1 hR1 hX1 hR hb hs ho
  go_enter Tryd.func65, Tryd.ntmps65
  go_wp2_with fail
  rw [show w.alloc (Obj.cells #[.int .u32 0, .string ⟨#[]⟩, .string ⟨#[]⟩] 24) = W from hW.symm]
  have HW := Lib.hid hW
  clear hW
  refine HH.out.mono ?_
  rintro e w2 ⟨rfl, rfl⟩
  go_wp2_with fail
  go_still_tail 16, (by kernel_rfl)
  change wpList _ _ _ _ _ W.drew
  all_goals
    go_wp2_with fail
    (try simp only [Exit.inBlock, Exit.then])
    exact bodyPost_ret (results_cell1 rfl _ _ w.heap.size 24 _ (0, 0) _ rfl HR.out Tryd.underlying24 rfl (by kernel_rfl)) rfl ⟨rfl, below_set (below_set (below_set (below_drew1 hbl) (Nat.le_refl _) _) (Nat.le_refl _) _) (Nat.le_refl _) _⟩

end Go.Proofs.YtalcfglcbpkebaaDoor
