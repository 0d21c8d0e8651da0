/-
  For any text of at most 30000 bytes: Get tells the document's entry, or refuses as it does.
  Conditions: none.
-/
import Derived.Deep.RegionHeld3
import Derived.Test.YtdklhcmoilcpgaaGreatEnUZ
import Derived.Test.YtdklhcmoilcpgaaGreatEnRZ
import Derived.Test.YtdklhcmoilcpgaaGreatEnOpZ
import Derived.Test.YtdklhcmoilcpgaaGreatEnTqZ
import Derived.Test.YtdklhcmoilcpgaaGreatEnGbZ
namespace Go.Proofs.YtdklhcmoilcpgaaGreat
open Go.ChangeShapes Go.WideShapes Go.ChangeAt Go.RowKit
open Go.ChangeMaps (open_string shut_string)
set_option linter.unusedVariables false
set_option linter.unusedSimpArgs false
structure GotE (w : World) (b1 b2 : Nat) (x y : EntC) (wx : World) : Prop where
  a : BoxE wx b1 x
  b : BoxE wx b2 y
  bel : Below w.heap.size w wx
theorem GotE.step {w wx wy : World} {b1 b2 : Nat} {x y : EntC} (h : GotE w b1 b2 x y wx) (hb : Below wx.heap.size wx wy) : GotE w b1 b2 x y wy := ⟨h.a.kept hb (Nat.le_refl _), h.b.kept hb (Nat.le_refl _), h.bel.trans (hb.mono h.bel.size)⟩
set_option maxRecDepth 100000 in
set_option maxHeartbeats 8000000 in
theorem egets_walk (s : ByteArray) (w : World) (hz : s.size ≤ 140737488351232) :
  Calls Tryz.prog 4 #[.string s] w fun e w' => e = .returned (.bool true) ∧ Below w.heap.size w w' := by
 have HH := Lib.hid ehead_any
 have HG1 := Lib.hid (fun w' => eget_any s w' hz)
 have HG2 := Lib.hid (fun (h : s.size ≤ 40000) w' => qeget_any s w' h)
 have HSM := Lib.hid (fun x y (he : x.e = y.e) w0 (hx : ShowsE w0 x) (hy : ShowsE w0 y) w' (hb : Below w0.heap.size w0 w') => by
  have := qesame_any x y w' (hx.kept hb (Nat.le_refl _)) (hy.kept hb (Nat.le_refl _))
  rw [he, sameE_refl] at this
  exact this)
 unfold EGetSaid at HG1
 unfold QGetSaid at HG2
 by_cases hlen : s.size ≤ 30000
 case neg =>
  have t1 : decide ((30000 : Int) < (s.size : Int)) = true := by simp; omega
  go_enter Tryz.func4, Tryz.ntmps4
  go_wp2_with fail
  refine (HH.out _).mono ?_
  rintro e w2 ⟨rfl, hb2⟩
  go_wp2_with fail
  go_ret
  exact ⟨rfl, hb2⟩
 have t1 : decide ((30000 : Int) < (s.size : Int)) = false := by simp; omega
 have HG2' := Lib.hid (HG2.out (by omega))
 clear HG2 hlen
 go_enter Tryz.func4, Tryz.ntmps4
 go_wp2_with fail
 refine (HG1.out _).mono ?_
 rintro e w1 ⟨x, E, rfl, hsx, -, hb1, hor1⟩
 have hX2 := BoxE.new (x := x) w1
 have hB2 := below_boxV w1 (Obj.cells #[.int .u8 x.k, .string x.name, .int .u64 x.n, .int .u32 x.xf, .string x.xg, .string x.xh, .slice x.A1 x.cs.length x.c1, .slice x.A2 x.rs.length x.c2] 29)
 have hs2 := (hsx.sub (low_out _ _)).kept hB2 (Nat.le_refl _)
 have HW2 := Lib.hid (And.intro hX2 (And.intro hs2 (hb1.trans (hB2.mono hb1.size))))
 obtain ⟨k, name, n, xf, xg, xh, A1, c1, cs, A2, c2, rs⟩ := x
 have HOR1 := Lib.hid hor1
 unfold entV
 simp only [] at HW2 HOR1 ⊢
 clear hX2 hB2 hs2 hsx hb1 t1 hor1
 go_wp2_with fail
 refine (HG2'.out _).mono ?_
 rintro e w3 ⟨y, F, rfl, hsy, hb3, hor2⟩
 have hX4 := BoxE.new (x := y) w3
 have hB4 := below_boxV w3 (Obj.cells #[.int .u8 y.k, .string y.name, .int .u64 y.n, .int .u32 y.xf, .string y.xg, .string y.xh, .slice y.A1 y.cs.length y.c1, .slice y.A2 y.rs.length y.c2] 29)
 have hs4 := (hsy.sub (low_out _ _)).kept hB4 (Nat.le_refl _)
 obtain ⟨hx2, hsx, hb2⟩ := HW2.out
 have hx3 := hx2.kept hb3 (Nat.le_refl _)
 have hx4 := hx3.kept hB4 (Nat.le_refl _)
 have hb4 := (hb2.trans (hb3.mono hb2.size)).trans (hB4.mono (hb2.trans (hb3.mono hb2.size)).size)
 have hsx4 := (hsx.kept hb3 (Nat.le_refl _)).kept hB4 (Nat.le_refl _)
 obtain ⟨hxy, rfl⟩ : EntC.e ⟨k, name, n, xf, xg, xh, A1, c1, cs, A2, c2, rs⟩ = y.e ∧ E = F := by
  rcases HOR1.out with ⟨h1, h2, h3⟩ | ⟨h1, h3⟩
  ·rcases hor2 with ⟨k1, k2, k3⟩ | ⟨k1, k3⟩
   ·rw [h2, k2, h3, k3]; exact ⟨rfl, rfl⟩
   ·rw [h1] at k1; exact absurd k1 (by simp)
  ·rcases hor2 with ⟨k1, k2, k3⟩ | ⟨k1, k3⟩
   ·rw [h1] at k1; exact absurd k1 (by simp)
   ·rw [h1] at k1; exact ⟨Option.some.inj k1, by rw [h3, k3]⟩
 have hSS := HSM.out _ y hxy _ hsx4 hs4
 have hG4 : GotE w _ _ _ _ _ := ⟨hx4, hX4, hb4⟩
 have HSS := Lib.hid hSS
 have HG4 := Lib.hid hG4
 clear HOR1 HSM HG1 HG2' HW2 hxy hor2 hSS hG4 hx3 hx4 hX4 hB4 hs4 hsx hsx4 hx2 hb2 hb3 hb4 hsy
 obtain ⟨yk, yname, yn, yxf, yxg, yxh, yA1, yc1, ycs, yA2, yc2, yrs⟩ := y
 unfold entV at HSS ⊢
 simp only [] at HSS HG4 ⊢
 obtain ⟨⟨p0, p1, p2⟩, ⟨p3, p4, p5⟩, p6, p7⟩ := HG4.out.a.cells
 obtain ⟨⟨q0, q1, q2⟩, ⟨q3, q4, q5⟩, q6, q7⟩ := HG4.out.b.cells
 simp only [] at p0 p1 p2 p3 p4 p5 p6 p7 q0 q1 q2 q3 q4 q5 q6 q7
 go_wp2_with fail
 refine (HSS.out _ (Below.refl _ _)).mono ?_
 rintro e w5 ⟨rfl, hb5⟩
 have hG5 := HG4.out.step hb5
 clear p0 p1 p2 p3 p4 p5 p6 p7 q0 q1 q2 q3 q4 q5 q6 q7
 go_wp2_with fail
 refine (HH.out _).mono ?_
 rintro e w6 ⟨rfl, hb6⟩
 have hG6 := hG5.step hb6
 go_wp2_with fail
 go_ret
 exact ⟨rfl, hG6.bel⟩
set_option maxRecDepth 100000 in
set_option maxHeartbeats 1000000 in
theorem egets_walk_lifted (os : Os) (started : os.Started) (H : Type) (enc : TypeId × Value → H) :
  ReturnsInHanded {} Tryz.checked os 4 .any (Rows.entryGetsSpec.pre6 enc Tryz.prog Tryz.f4 Rows.entryGetsRow.domain false) (Rows.entryGetsSpec.post enc Tryz.prog Tryz.f4 false true false false) := by
 refine returnsInHanded_of_change_sized (C := Tryz.checked) own started (by kernel_rfl) Tryz.func4
  (ChangeSpec.witness6 (enc := enc) (C := Tryz.checked) false ⟨#[], #[.string ⟨#[]⟩], []⟩ 8 (by kernel_rfl) (by kernel_rfl) (by kernel_rfl) (by kernel_rfl)) ?_
 intro W base args ds gs before hval0 hW hcnd hsz0 _
 have hval : ∀ (j : Nat) t v, Tryz.f4.params[j]? = some t → args[j]? = some v → Value.okWide Tryz.prog W .any base t v := hval0
 have hsz : (DataW.weightsEach Tryz.prog (Tryz.f4.params.toList ++ Rows.entryGetsSpec.plain.varTypes Tryz.prog) (ds ++ gs)).all (· ≤ reachBytes) = true := hsz0
 have hW' := hW
 obtain ⟨p, q, hA0, hV, rfl, hfz, hnd⟩ := hW
 have hA : DataW.TrodAll enc Tryz.prog W 0 (fun _ => true) true Tryz.f4.params.toList args.toList ds p := hA0
 rw [Tryz.params4] at hA hval hsz
 obtain ⟨v0, vs0, d0, ds0, p0, q0, hargs, rfl, rfl, h0, r0⟩ := trodAll_cons hA
 obtain ⟨rfl, rfl, rfl⟩ := trodAll_nil r0
 obtain rfl : args = #[v0] := by cases args; simp_all
 obtain ⟨rfl, rfl⟩ := trodVars_none hV
 have k0 := h0
 have lt0 : ∀ x ∈ p0, x.block < W.heap.size := by obtain ⟨m, hm⟩ := k0; exact DataW.trod_lt m _ _ _ hm
 obtain ⟨s0, rfl, rfl, rfl, _⟩ := open_string Tryz.underlying9 (hval 0 9 v0 rfl rfl) h0
 have zs0 := sized_string hsz (j := 0) (t := 9) rfl rfl
 have zt0 : s0.size ≤ 140737488351232 := by rw [← sb_length]; exact zs0
 clear hA0 hval0
 refine (egets_walk s0 W zt0).mono fun e W' ⟨he, bel⟩ => ?_
 subst he
 exact ⟨_, rfl, _, _, _, [], _, [], hW', trodAll_mk1 (shut_bool Tryz.underlying4 _), (trodAll_cons_mk (Below.trod laidOut (by kernel_rfl) (of_decide_eq_true (by kernel_rfl)) k0 bel lt0) trodAll_mk0), rfl, bel.frame _, fun h => by cases h⟩
theorem entryGets_holds : Rows.EntryGetsSaid :=
 OpenClaim.holds_of_wide 4 Tryz.f4 rfl rfl rfl rfl rfl rfl rfl ⟨rfl, rfl, rfl, rfl, rfl⟩ rfl rfl rfl rfl rfl (by kernel_rfl) Tryz.func4 (by kernel_rfl)
  (of_decide_eq_true (by kernel_rfl)) (by unfold Func.isWrapper; first | (rw [if_pos (by decide +kernel)]; kernel_rfl) | (rw [if_neg (by decide +kernel)]; exact ⟨rfl, rfl⟩))
  (fun os started H enc _ => egets_walk_lifted os started H enc)
#print axioms entryGets_holds
end Go.Proofs.YtdklhcmoilcpgaaGreat
