/-
  For any methods that may be looked at: Same says rightly whether they are the same, and a method is the same as its copy.
  Conditions: none.
-/
import Derived.Deep.RegionHeld3
import Derived.Test.YtnafibnhmhbfiabMeTwZ
import Derived.Test.YtnafibnhmhbfiabMeOpZ
import Derived.Test.YtnafibnhmhbfiabMeDqZ
import Derived.Test.YtnafibnhmhbfiabMeCpZ
namespace Go.Proofs.Ytnafibnhmhbfiab
open Go.ChangeShapes Go.WideShapes Go.ChangeAt Go.RowKit
open Go.ChangeMaps (open_string shut_string)
set_option linter.unusedVariables false
set_option linter.unusedSimpArgs false

theorem TwoM.calls {w0 : World} {k1 c1 : Nat} {s1 : Bool} {v1 : Value} {k2 c2 : Nat} {s2 : Bool} {v2 x y : Value} {E1 E2 : List UInt8} {f : FuncId} {args : Array Value} {r : Ending} (hc : ∀ w, TwoM w0 k1 c1 s1 v1 k2 c2 s2 v2 x E1 y E2 w → Calls Try.prog f args w fun e w' => e = r ∧ Below w.heap.size w w') :
    ∀ w, TwoM w0 k1 c1 s1 v1 k2 c2 s2 v2 x E1 y E2 w → Calls Try.prog f args w fun e w' => e = r ∧ TwoM w0 k1 c1 s1 v1 k2 c2 s2 v2 x E1 y E2 w' :=
  fun w h => (hc w h).mono fun e w' he => ⟨he.1, h.step he.2⟩

set_option maxRecDepth 100000 in
set_option maxHeartbeats 8000000 in
theorem msamelaw_walk (k1 c1 : Nat) (s1 : Bool) (l : List ArgP) (A : Option Addr) (c : Nat) (k2 c2 : Nat) (s2 : Bool) (m : List ArgP) (A' : Option Addr) (c' : Nat) (w : World) (hk1 : k1 < 256) (hc1 : c1 < 256) (hl : ListA w l A c) (hk2 : k2 < 256) (hc2 : c2 < 256) (hm : ListA w m A' c') :
    Calls Try.prog 5 #[.agg #[.int .u8 k1, .int .u8 c1, .bool s1, .slice A l.length c], .agg #[.int .u8 k2, .int .u8 c2, .bool s2, .slice A' m.length c']] w fun e w' => e = .returned (.bool true) ∧ Below w.heap.size w w' := by
  have HSM := Lib.hid (fun w' (hw' : Below w.heap.size w w') => msmall_any k1 c1 s1 l A c w' (hl.kept hw' (Nat.le_refl _)))
  have HSM2 := Lib.hid (fun w' (hw' : Below w.heap.size w w') => msmall_any k2 c2 s2 m A' c' w' (hm.kept hw' (Nat.le_refl _)))
  unfold SmallM at HSM HSM2
  have HH := Lib.hid mhead_any
  have HSAME := Lib.hid (fun (hc : ∀ a ∈ l, cntT a.v ≤ 400) w' (hw' : Below w.heap.size w w') => msame_any k1 c1 s1 l A c k2 c2 s2 m A' c' w' (hl.kept hw' (Nat.le_refl _)) (hm.kept hw' (Nat.le_refl _)) (fun a ha => by have := hc a ha; omega))
  have HQS := Lib.hid (fun w' (hw' : Below w.heap.size w w') => qmsame_any k1 c1 s1 l A c k2 c2 s2 m A' c' w' (hl.kept hw' (Nat.le_refl _)) (hm.kept hw' (Nat.le_refl _)))
  have HCP := Lib.hid (fun (h8 : l.length ≤ 8) (hc : ∀ a ∈ l, cntT a.v ≤ 400) w' (hw' : Below w.heap.size w w') => mcopy_any k1 c1 s1 l A c w' (hl.kept hw' (Nat.le_refl _)) h8 hc)
  have HSC := Lib.hid (fun (hc : ∀ a ∈ l, cntT a.v ≤ 400) w' (hw' : Below w.heap.size w w') A3 c3 (hs : ListA w' l A3 c3) => msame_any k1 c1 s1 l A c k1 c1 s1 l A3 c3 w' (hl.kept hw' (Nat.le_refl _)) hs (fun a ha => by have := hc a ha; omega))
  rw [(sameM_iff ⟨k1, c1, s1, l⟩ _).2 rfl] at HSC
  unfold MCopySaid at HCP
  generalize sameM ⟨k1, c1, s1, l⟩ ⟨k2, c2, s2, m⟩ = sm at *
  have hT := TwoM.new w k1 c1 s1 (.slice A l.length c) k2 c2 s2 (.slice A' m.length c')
  obtain ⟨⟨p0, p1, p2, p3⟩, ⟨q0, q1, q2, q3⟩, _⟩ := hT.cells
  have H0 := Lib.hid hT
  clear hT hl hm
  go_enter Try.func5, Try.ntmps5
  go_wp2_with fail
  have hG := H0.out
  clear H0 p0 p1 p2 p3 q0 q1 q2 q3
  generalize ((w.alloc (Obj.cells #[.int .u8 k1, .int .u8 c1, .bool s1, .slice A l.length c] 53)).alloc (Obj.cells #[.int .u8 k2, .int .u8 c2, .bool s2, .slice A' m.length c'] 53)) = W at *
  refine (HSM.out _ hG.bel).mono ?_
  rintro e w1 ⟨r1', rfl, hr1, hb1⟩
  have hG := hG.step hb1
  obtain ⟨⟨p0, p1, p2, p3⟩, ⟨q0, q1, q2, q3⟩, _⟩ := hG.cells
  cases r1' with
  | false =>
    go_wp2_with fail
    refine (HH.out _).mono ?_
    rintro e w2 ⟨rfl, hb2⟩
    have hG := hG.step hb2
    go_wp2_with fail
    go_ret
    exact ⟨rfl, hG.bel⟩
  | true =>
  have hc1' := (hr1 rfl).2
  have hlen1 := (hr1 rfl).1
  have HSa := Lib.hid (HSAME.out hc1')
  have HCa := Lib.hid (HCP.out hlen1 hc1')
  have HSb := Lib.hid (HSC.out hc1')
  clear HSC HSAME HCP hlen1
  clear hr1 hc1'
  go_wp2_with fail
  refine (HSM2.out _ hG.bel).mono ?_
  rintro e w2 ⟨r2', rfl, hr2, hb2⟩
  have hG := hG.step hb2
  clear p0 p1 p2 p3 q0 q1 q2 q3
  obtain ⟨⟨p0, p1, p2, p3⟩, ⟨q0, q1, q2, q3⟩, _⟩ := hG.cells
  cases r2' with
  | false =>
    go_wp2_with fail
    refine (HH.out _).mono ?_
    rintro e w3 ⟨rfl, hb3⟩
    have hG := hG.step hb3
    go_wp2_with fail
    go_ret
    exact ⟨rfl, hG.bel⟩
  | true =>
  have hc2' := (hr2 rfl).2
  clear hr2 hc2' HSM HSM2
  clear p0 p1 p2 p3 q0 q1 q2 q3 hb1 hb2
  have hGd := hG.drw
  clear hG
  have C1 := Lib.hid (TwoM.calls (w0 := w) (k1 := k1) (c1 := c1) (s1 := s1) (v1 := .slice A l.length c) (k2 := k2) (c2 := c2) (s2 := s2) (v2 := .slice A' m.length c') (x := .slice none 0 0) (E1 := []) (y := .slice none 0 0) (E2 := []) (fun w' h => HSa.out w' h.bel))
  have C2 := Lib.hid (TwoM.calls (w0 := w) (k1 := k1) (c1 := c1) (s1 := s1) (v1 := .slice A l.length c) (k2 := k2) (c2 := c2) (s2 := s2) (v2 := .slice A' m.length c') (x := .slice none 0 0) (E1 := []) (y := .slice none 0 0) (E2 := []) (fun w' h => HQS.out w' h.bel))
  have HC8 := Lib.hid (fun w' (h : TwoM w k1 c1 s1 (.slice A l.length c) k2 c2 s2 (.slice A' m.length c') (.slice none 0 0) [] (.slice none 0 0) [] w') => (show (w'.cell? ⟨w.heap.size, 0, none⟩ = some (.int .u8 k1) ∧ w'.cell? ⟨w.heap.size, 1, none⟩ = some (.int .u8 c1) ∧ w'.cell? ⟨w.heap.size, 2, none⟩ = some (.bool s1) ∧ w'.cell? ⟨w.heap.size, 3, none⟩ = some (.slice A l.length c)) ∧ (w'.cell? ⟨w.heap.size + 1, 0, none⟩ = some (.int .u8 k2) ∧ w'.cell? ⟨w.heap.size + 1, 1, none⟩ = some (.int .u8 c2) ∧ w'.cell? ⟨w.heap.size + 1, 2, none⟩ = some (.bool s2) ∧ w'.cell? ⟨w.heap.size + 1, 3, none⟩ = some (.slice A' m.length c')) from ⟨h.cells.1, h.cells.2.1⟩))
  go_upto_region 3 with fail
  go_region_held3 (fun w' => (w'.cell? ⟨w.heap.size, 0, none⟩ = some (.int .u8 k1) ∧ w'.cell? ⟨w.heap.size, 1, none⟩ = some (.int .u8 c1) ∧ w'.cell? ⟨w.heap.size, 2, none⟩ = some (.bool s1) ∧ w'.cell? ⟨w.heap.size, 3, none⟩ = some (.slice A l.length c)) ∧ (w'.cell? ⟨w.heap.size + 1, 0, none⟩ = some (.int .u8 k2) ∧ w'.cell? ⟨w.heap.size + 1, 1, none⟩ = some (.int .u8 c2) ∧ w'.cell? ⟨w.heap.size + 1, 2, none⟩ = some (.bool s2) ∧ w'.cell? ⟨w.heap.size + 1, 3, none⟩ = some (.slice A' m.length c'))) (first | with_reducible exact HC8.out _ hG7 | with_reducible exact HC8.out _ hG6 | with_reducible exact HC8.out _ hG5 | with_reducible exact HC8.out _ (by assumption))
    (first
      | (go_at_call 19
         first
           | (with_reducible refine (C1.out _ (by assumption)).mono ?_
              rintro e3 w3 ⟨rfl, hG3⟩)
           | (with_reducible refine (HSb.out _ hG5.bel _ _ hS5).mono ?_
              rintro e6 w6 ⟨rfl, hb6⟩
              have hG6 := hG5.step hb6))
      | (go_at_call 20
         with_reducible refine (C2.out _ (by assumption)).mono ?_
         rintro e4 w4 ⟨rfl, hG4⟩)
      | (go_at_call 21
         with_reducible refine (HCa.out _ (TwoM.bel (by assumption))).mono ?_
         rintro e5 w5 ⟨A5, c5, rfl, hS5, hb5⟩
         have hG5 := TwoM.step (by assumption) hb5)
      | (go_at_call 18
         with_reducible refine (HH.out _).mono ?_
         rintro e7 w7 ⟨rfl, hb7⟩
         have hG7 := hG6.step hb7))
  all_goals
    go_wp2_with fail
    go_ret
    exact ⟨rfl, hG7.bel⟩

set_option maxRecDepth 100000 in
set_option maxHeartbeats 1000000 in
theorem msamelaw_walk_lifted (os : Os) (started : os.Started) (H : Type) (enc : TypeId × Value → H) :
    ReturnsInHanded {} Try.checked os 5 .any (Rows.methodSameSpec.pre6 enc Try.prog Try.f5 Rows.methodSameRow.domain false) (Rows.methodSameSpec.post enc Try.prog Try.f5 false true false false) := by
  refine returnsInHanded_of_change_sized (C := Try.checked) own started (by kernel_rfl) Try.func5
    (ChangeSpec.witness6 (enc := enc) (C := Try.checked) false ⟨#[], #[.agg #[.int .u8 0, .int .u8 0, .bool false, .slice none 0 0], .agg #[.int .u8 0, .int .u8 0, .bool false, .slice none 0 0]], []⟩ 8 (by kernel_rfl) (by kernel_rfl) (by kernel_rfl) (by kernel_rfl)) ?_
  intro W base args ds gs before hval0 hW hcnd hsz0 _
  have hval : ∀ (j : Nat) t v, Try.f5.params[j]? = some t → args[j]? = some v → Value.okWide Try.prog W .any base t v := hval0
  have hsz : (DataW.weightsEach Try.prog (Try.f5.params.toList ++ Rows.methodSameSpec.plain.varTypes Try.prog) (ds ++ gs)).all (· ≤ reachBytes) = true := hsz0
  have hW' := hW
  obtain ⟨p, q, hA0, hV, rfl, hfz, hnd⟩ := hW
  have hA : DataW.TrodAll enc Try.prog W 0 (fun _ => true) true Try.f5.params.toList args.toList ds p := hA0
  rw [Try.params5] at hA hval hsz
  obtain ⟨v0, vs0, d0, ds0, p0, q0, hargs, rfl, rfl, h0, r0⟩ := trodAll_cons hA
  obtain ⟨v1, vs1, d1, ds1, p1, q1, rfl, rfl, rfl, h1, r1⟩ := trodAll_cons r0
  obtain ⟨rfl, rfl, rfl⟩ := trodAll_nil r1
  obtain rfl : args = #[v0, v1] := by cases args; simp_all
  obtain ⟨rfl, rfl⟩ := trodVars_none hV
  have k0 := h0
  have lt0 : ∀ x ∈ p0, x.block < W.heap.size := by obtain ⟨m, hm⟩ := k0; exact DataW.trod_lt m _ _ _ hm
  have k1 := h1
  have lt1 : ∀ x ∈ p1, x.block < W.heap.size := by obtain ⟨m, hm⟩ := k1; exact DataW.trod_lt m _ _ _ hm
  obtain ⟨cl0, co0, sy0, L0, A0, c0, rfl, clb0, cob0, sh0⟩ := open_method (hval 0 53 v0 rfl rfl) h0 hsz 0 rfl rfl
  obtain ⟨cl1, co1, sy1, L1, A1, c1, rfl, clb1, cob1, sh1⟩ := open_method (hval 1 53 v1 rfl rfl) h1 hsz 1 rfl rfl
  clear hA0 hval0
  refine (msamelaw_walk cl0 co0 sy0 L0 A0 c0 cl1 co1 sy1 L1 A1 c1 W clb0 cob0 sh0 clb1 cob1 sh1).mono fun e W' ⟨he, bel⟩ => ?_
  subst he
  exact ⟨_, rfl, _, _, _, [], _, [], hW', trodAll_mk1 (shut_bool Try.underlying4 _), (trodAll_cons_mk (Below.trod laidOut (by kernel_rfl) (of_decide_eq_true (by kernel_rfl)) k0 bel lt0) (trodAll_cons_mk (Below.trod laidOut (by kernel_rfl) (of_decide_eq_true (by kernel_rfl)) k1 bel lt1) trodAll_mk0)), rfl, bel.frame _, fun h => by cases h⟩

theorem methodSame_holds : Rows.MethodSameSaid :=
  OpenClaim.holds_of_wide 5 Try.f5 rfl rfl rfl rfl rfl rfl rfl ⟨rfl, rfl, rfl, rfl, rfl⟩ rfl rfl rfl rfl rfl (by kernel_rfl) Try.func5 (by kernel_rfl)
    (of_decide_eq_true (by kernel_rfl)) (by unfold Func.isWrapper; first | (rw [if_pos (by decide +kernel)]; kernel_rfl) | (rw [if_neg (by decide +kernel)]; exact ⟨rfl, rfl⟩))
    (fun os started H enc _ => msamelaw_walk_lifted os started H enc)
#print axioms methodSame_holds
end Go.Proofs.Ytnafibnhmhbfiab
