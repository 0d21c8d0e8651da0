/-
  For any methods, both that may be: they have the same bytes just if they are the same.
  Conditions: none.
-/
import Derived.Deep.RegionHeld3
import Derived.Test.YtnafibnhmhbfiabMeTwZ
import Derived.Test.YtnafibnhmhbfiabMeOpZ
namespace Go.Proofs.Ytnafibnhmhbfiab
open Go.ChangeShapes Go.WideShapes Go.ChangeAt Go.RowKit
open Go.ChangeMaps (open_string shut_string)
set_option linter.unusedVariables false
set_option linter.unusedSimpArgs false

set_option maxRecDepth 100000 in
set_option maxHeartbeats 8000000 in
theorem mone_walk (k1 c1 : Nat) (s1 : Bool) (l : List ArgP) (A : Option Addr) (c : Nat) (k2 c2 : Nat) (s2 : Bool) (m : List ArgP) (A' : Option Addr) (c' : Nat) (w : World) (hk1 : k1 < 256) (hc1 : c1 < 256) (hl : ListA w l A c) (hk2 : k2 < 256) (hc2 : c2 < 256) (hm : ListA w m A' c') :
    Calls Try.prog 7 #[.agg #[.int .u8 k1, .int .u8 c1, .bool s1, .slice A l.length c], .agg #[.int .u8 k2, .int .u8 c2, .bool s2, .slice A' m.length c']] w fun e w' => e = .returned (.bool true) ∧ Below w.heap.size w w' := by
  have HSM := Lib.hid (fun w' (hw' : Below w.heap.size w w') => msmall_any k1 c1 s1 l A c w' (hl.kept hw' (Nat.le_refl _)))
  have HSM2 := Lib.hid (fun w' (hw' : Below w.heap.size w w') => msmall_any k2 c2 s2 m A' c' w' (hm.kept hw' (Nat.le_refl _)))
  unfold SmallM at HSM HSM2
  have HH := Lib.hid mhead_any
  have HSAME := Lib.hid (fun (hc : ∀ a ∈ l, cntT a.v ≤ 400) w' (hw' : Below w.heap.size w w') => msame_any k1 c1 s1 l A c k2 c2 s2 m A' c' w' (hl.kept hw' (Nat.le_refl _)) (hm.kept hw' (Nat.le_refl _)) (fun a ha => by have := hc a ha; omega))
  have HP := Lib.hid (fun (hc : ∀ a ∈ l, cntT a.v ≤ 400) w' (hw' : Below w.heap.size w w') => mput_any k1 c1 s1 l A c w' (hl.kept hw' (Nat.le_refl _)) (fun a ha => by have := hc a ha; omega))
  have HP2 := Lib.hid (fun (hc : ∀ a ∈ m, cntT a.v ≤ 400) w' (hw' : Below w.heap.size w w') => mput_any k2 c2 s2 m A' c' w' (hm.kept hw' (Nat.le_refl _)) (fun a ha => by have := hc a ha; omega))
  have HINJ := Lib.hid (mput_same (a := ⟨k1, c1, s1, l⟩) (b := ⟨k2, c2, s2, m⟩) ⟨hk1, hc1, hl.ok⟩ ⟨hk2, hc2, hm.ok⟩)
  generalize errPM ⟨k1, c1, s1, l⟩ = E1 at *
  generalize errPM ⟨k2, c2, s2, m⟩ = E2 at *
  generalize outPM ⟨k1, c1, s1, l⟩ = B1 at *
  generalize outPM ⟨k2, c2, s2, m⟩ = B2 at *
  generalize sameM ⟨k1, c1, s1, l⟩ ⟨k2, c2, s2, m⟩ = sm at *
  have hT := TwoM.new w k1 c1 s1 (.slice A l.length c) k2 c2 s2 (.slice A' m.length c')
  obtain ⟨⟨p0, p1, p2, p3⟩, ⟨q0, q1, q2, q3⟩, _⟩ := hT.cells
  have H0 := Lib.hid hT
  clear hT hl hm
  go_enter Try.func7, Try.ntmps7
  go_wp2_with fail
  have hG := H0.out
  clear H0 p0 p1 p2 p3 q0 q1 q2 q3
  generalize ((w.alloc (Obj.cells #[.int .u8 k1, .int .u8 c1, .bool s1, .slice A l.length c] 53)).alloc (Obj.cells #[.int .u8 k2, .int .u8 c2, .bool s2, .slice A' m.length c'] 53)) = W at *
  refine (HSM.out _ hG.bel).mono ?_
  rintro e w1 ⟨r1', rfl, hr1, hb1⟩
  have hG := hG.step hb1
  obtain ⟨⟨p0, p1, p2, p3⟩, ⟨q0, q1, q2, q3⟩, _⟩ := hG.cells
  cases r1' with
  | false =>
    go_wp2_with fail
    refine (HH.out _).mono ?_
    rintro e w2 ⟨rfl, hb2⟩
    have hG := hG.step hb2
    go_wp2_with fail
    go_ret
    exact ⟨rfl, hG.bel⟩
  | true =>
  have hc1' := (hr1 rfl).2
  have hlen1 := (hr1 rfl).1
  have HPa := Lib.hid (HP.out hc1')
  have HSa := Lib.hid (HSAME.out hc1')
  clear HP HSAME
  clear hr1 hc1'
  go_wp2_with fail
  refine (HSM2.out _ hG.bel).mono ?_
  rintro e w2 ⟨r2', rfl, hr2, hb2⟩
  have hG := hG.step hb2
  clear p0 p1 p2 p3 q0 q1 q2 q3
  obtain ⟨⟨p0, p1, p2, p3⟩, ⟨q0, q1, q2, q3⟩, _⟩ := hG.cells
  cases r2' with
  | false =>
    go_wp2_with fail
    refine (HH.out _).mono ?_
    rintro e w3 ⟨rfl, hb3⟩
    have hG := hG.step hb3
    go_wp2_with fail
    go_ret
    exact ⟨rfl, hG.bel⟩
  | true =>
  have hc2' := (hr2 rfl).2
  have HPb := Lib.hid (HP2.out hc2')
  clear HP2
  clear hr2 hc2' HSM HSM2
  go_wp2_with fail
  refine (HPa.out _ hG.bel).mono ?_
  rintro e w3 ⟨x, rfl, hx, hb3⟩
  have hG := hG.step hb3
  clear p0 p1 p2 p3 q0 q1 q2 q3
  obtain ⟨⟨p0, p1, p2, p3⟩, ⟨q0, q1, q2, q3⟩, _⟩ := hG.cells
  go_wp2_with fail
  refine (HPb.out _ hG.bel).mono ?_
  rintro e w4 ⟨y, rfl, hy, hb4⟩
  have hG := hG.step hb4
  have hG2 : TwoM w k1 c1 s1 (.slice A l.length c) k2 c2 s2 (.slice A' m.length c') x B1 y B2 w4 := ⟨hG.a, hG.b, shows_belowM hx hb4, hy, hG.bel⟩
  clear hG hx hy p0 p1 p2 p3 q0 q1 q2 q3 hb1 hb2 hb3 hb4
  by_cases he1 : E1 = 0
  case neg =>
    have hcI : ((E1 : Int) != 0) = true := by simp; omega
    go_wp2_with fail
    refine (HH.out _).mono ?_
    rintro e w5 ⟨rfl, hb5⟩
    have hG := hG2.step hb5
    go_wp2_with fail
    go_ret
    exact ⟨rfl, hG.bel⟩
  have hcI : ((E1 : Int) != 0) = false := by simp; omega
  by_cases he2 : E2 = 0
  case neg =>
    have hcJ : ((E2 : Int) != 0) = true := by simp; omega
    clear he1
    go_wp2_with fail
    refine (HH.out _).mono ?_
    rintro e w5 ⟨rfl, hb5⟩
    have hG := hG2.step hb5
    go_wp2_with fail
    go_ret
    exact ⟨rfl, hG.bel⟩
  have hcJ : ((E2 : Int) != 0) = false := by simp; omega
  have hinj := HINJ.out he1 he2
  have C1 := Lib.hid (fun w' (h : TwoM w k1 c1 s1 (.slice A l.length c) k2 c2 s2 (.slice A' m.length c') x B1 y B2 w') => HSa.out w' h.bel)
  have hEE : ((str8 B1).toList == (str8 B2).toList) = (B1 == B2) := by rw [str8_toList, str8_toList]
  obtain ⟨eb, heb⟩ : ∃ eb, eb = (B1 == B2) := ⟨_, rfl⟩
  rw [← heb] at hinj hEE
  clear he1 he2 HINJ heb
  go_upto_region 7 with fail
  have hGd := hG2.drw
  have hbb : (eb == sm) = true := hinj
  go_region_held3 (fun w' => (w'.cell? ⟨w.heap.size, 0, none⟩ = some (.int .u8 k1) ∧ w'.cell? ⟨w.heap.size, 1, none⟩ = some (.int .u8 c1) ∧ w'.cell? ⟨w.heap.size, 2, none⟩ = some (.bool s1) ∧ w'.cell? ⟨w.heap.size, 3, none⟩ = some (.slice A l.length c)) ∧ (w'.cell? ⟨w.heap.size + 1, 0, none⟩ = some (.int .u8 k2) ∧ w'.cell? ⟨w.heap.size + 1, 1, none⟩ = some (.int .u8 c2) ∧ w'.cell? ⟨w.heap.size + 1, 2, none⟩ = some (.bool s2) ∧ w'.cell? ⟨w.heap.size + 1, 3, none⟩ = some (.slice A' m.length c')) ∧
      (convert 57 9 x).run Try.prog w' = .ok (.string (str8 B1)) w' ∧ (convert 57 9 y).run Try.prog w' = .ok (.string (str8 B2)) w') (first | with_reducible exact TwoM.cells hG6 | with_reducible exact TwoM.cells hG5 | with_reducible exact TwoM.cells hGd)
    (first
      | (go_at_call 19
         with_reducible refine (C1.out _ hGd).mono ?_
         rintro e5 w5 ⟨rfl, hb5⟩
         have hG5 := hGd.step hb5)
      | (go_at_call 18
         with_reducible refine (HH.out _).mono ?_
         rintro e6 w6 ⟨rfl, hb6⟩
         have hG6 := hG5.step hb6))
  all_goals
    go_wp2_with fail
    go_ret
    exact ⟨rfl, hG6.bel⟩

set_option maxRecDepth 100000 in
set_option maxHeartbeats 1000000 in
theorem mone_walk_lifted (os : Os) (started : os.Started) (H : Type) (enc : TypeId × Value → H) :
    ReturnsInHanded {} Try.checked os 7 .any (Rows.methodOneSpec.pre6 enc Try.prog Try.f7 Rows.methodOneRow.domain false) (Rows.methodOneSpec.post enc Try.prog Try.f7 false true false false) := by
  refine returnsInHanded_of_change_sized (C := Try.checked) own started (by kernel_rfl) Try.func7
    (ChangeSpec.witness6 (enc := enc) (C := Try.checked) false ⟨#[], #[.agg #[.int .u8 0, .int .u8 0, .bool false, .slice none 0 0], .agg #[.int .u8 0, .int .u8 0, .bool false, .slice none 0 0]], []⟩ 8 (by kernel_rfl) (by kernel_rfl) (by kernel_rfl) (by kernel_rfl)) ?_
  intro W base args ds gs before hval0 hW hcnd hsz0 _
  have hval : ∀ (j : Nat) t v, Try.f7.params[j]? = some t → args[j]? = some v → Value.okWide Try.prog W .any base t v := hval0
  have hsz : (DataW.weightsEach Try.prog (Try.f7.params.toList ++ Rows.methodOneSpec.plain.varTypes Try.prog) (ds ++ gs)).all (· ≤ reachBytes) = true := hsz0
  have hW' := hW
  obtain ⟨p, q, hA0, hV, rfl, hfz, hnd⟩ := hW
  have hA : DataW.TrodAll enc Try.prog W 0 (fun _ => true) true Try.f7.params.toList args.toList ds p := hA0
  rw [Try.params7] at hA hval hsz
  obtain ⟨v0, vs0, d0, ds0, p0, q0, hargs, rfl, rfl, h0, r0⟩ := trodAll_cons hA
  obtain ⟨v1, vs1, d1, ds1, p1, q1, rfl, rfl, rfl, h1, r1⟩ := trodAll_cons r0
  obtain ⟨rfl, rfl, rfl⟩ := trodAll_nil r1
  obtain rfl : args = #[v0, v1] := by cases args; simp_all
  obtain ⟨rfl, rfl⟩ := trodVars_none hV
  have k0 := h0
  have lt0 : ∀ x ∈ p0, x.block < W.heap.size := by obtain ⟨m, hm⟩ := k0; exact DataW.trod_lt m _ _ _ hm
  have k1 := h1
  have lt1 : ∀ x ∈ p1, x.block < W.heap.size := by obtain ⟨m, hm⟩ := k1; exact DataW.trod_lt m _ _ _ hm
  obtain ⟨cl0, co0, sy0, L0, A0, c0, rfl, clb0, cob0, sh0⟩ := open_method (hval 0 53 v0 rfl rfl) h0 hsz 0 rfl rfl
  obtain ⟨cl1, co1, sy1, L1, A1, c1, rfl, clb1, cob1, sh1⟩ := open_method (hval 1 53 v1 rfl rfl) h1 hsz 1 rfl rfl
  clear hA0 hval0
  refine (mone_walk cl0 co0 sy0 L0 A0 c0 cl1 co1 sy1 L1 A1 c1 W clb0 cob0 sh0 clb1 cob1 sh1).mono fun e W' ⟨he, bel⟩ => ?_
  subst he
  exact ⟨_, rfl, _, _, _, [], _, [], hW', trodAll_mk1 (shut_bool Try.underlying4 _), (trodAll_cons_mk (Below.trod laidOut (by kernel_rfl) (of_decide_eq_true (by kernel_rfl)) k0 bel lt0) (trodAll_cons_mk (Below.trod laidOut (by kernel_rfl) (of_decide_eq_true (by kernel_rfl)) k1 bel lt1) trodAll_mk0)), rfl, bel.frame _, fun h => by cases h⟩

theorem methodOne_holds : Rows.MethodOneSaid :=
  OpenClaim.holds_of_wide 7 Try.f7 rfl rfl rfl rfl rfl rfl rfl ⟨rfl, rfl, rfl, rfl, rfl⟩ rfl rfl rfl rfl rfl (by kernel_rfl) Try.func7 (by kernel_rfl)
    (of_decide_eq_true (by kernel_rfl)) (by unfold Func.isWrapper; first | (rw [if_pos (by decide +kernel)]; kernel_rfl) | (rw [if_neg (by decide +kernel)]; exact ⟨rfl, rfl⟩))
    (fun os started H enc _ => mone_walk_lifted os started H enc)
#print axioms methodOne_holds
end Go.Proofs.Ytnafibnhmhbfiab
