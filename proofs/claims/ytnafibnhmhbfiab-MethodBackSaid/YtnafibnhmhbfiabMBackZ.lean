/-
  For any method that may be looked at and all bytes of at most 20000: Get of Put is the method, and Put of what Get takes is the bytes.
  Conditions: none.
-/
import Derived.Deep.RegionHeld3
import Derived.Test.YtnafibnhmhbfiabMeTwZ
import Derived.Test.YtnafibnhmhbfiabMeOpZ
import Derived.Test.YtnafibnhmhbfiabMeUCZ
import Derived.Test.YtnafibnhmhbfiabMeVBZ
namespace Go.Proofs.Ytnafibnhmhbfiab
open Go.ChangeShapes Go.WideShapes Go.ChangeAt Go.RowKit
open Go.ChangeMaps (open_string shut_string)
set_option linter.unusedVariables false
set_option linter.unusedSimpArgs false

theorem mget_any (v : Value) (l : List UInt8) (d : Nat) (w : World) (h : Shows w d v l) (hl : l.length ≤ 140737488351232) : Calls Try.prog 23 #[v] w (MGetSaid (m_getM l) (errM l) w) :=
  mget_law (fun b d sk s w h hl hk h3 => args_any b d sk s w h hl hk h3) v l d w h hl
def zM : MethP := ⟨0, 0, false, []⟩
def ansM (o : Option MethP) (er : Nat) : MethP × Nat :=
  match o with
  | none => (zM, er)
  | some m => (m, 0)
theorem MGetSaid.ans {o : Option MethP} {er : Nat} {w w' : World} {e : Ending} (h : MGetSaid o er w e w') :
    ∃ A c, e = .returned (.tuple #[.agg #[.int .u8 (ansM o er).1.cl, .int .u8 (ansM o er).1.co, .bool (ansM o er).1.sy, .slice A (ansM o er).1.args.length c], .int .i64 (ansM o er).2]) ∧ ListA w' (ansM o er).1.args A c ∧ Below w.heap.size w w' := by
  obtain ⟨hb, ⟨rfl, h⟩ | ⟨m, A, c, rfl, h, hl⟩⟩ := h
  · exact ⟨none, 0, h.trans rfl, ListA.nil _, hb⟩
  · exact ⟨A, c, h, hl, hb⟩
theorem m_getM_cnt {b : List UInt8} {m : MethP} (h : m_getM b = some m) : ∀ a ∈ m.args, cntT a.v ≤ 1000000 := by
  unfold m_getM at h
  split at h
  · cases h
  · split at h
    · cases h
    · split at h
      · cases h
        exact argsR_cnt _ _ _
      · cases h
theorem m_put_len {m : MethP} (hv : validM m) : (m_putM m).length ≤ 3000000 := by
  obtain ⟨ks, hk, ha, hs⟩ := hv
  obtain ⟨_, _, _, k4, k5⟩ := kinds_ok hk
  have h1 := encArgs_len ks m.args k5 ha
  unfold m_putM headM
  rw [hk]
  simp only [Option.getD, List.length_append, be_length]
  have h2 : (if 2 < m.cl then ([1, if m.sy = true then 1 else 0] : List UInt8) else []).length ≤ 2 := by split <;> simp
  simp only [List.length_cons, List.length_nil]
  omega

/-- The method in its box. -/
structure OneM (w0 : World) (k1 c1 : Nat) (s1 : Bool) (v1 : Value) (w : World) : Prop where
  a : BoxM w w0.heap.size k1 c1 s1 v1
  bel : Below w0.heap.size w0 w
theorem OneM.step {w0 w w' : World} {k1 c1 : Nat} {s1 : Bool} {v1 : Value} (h : OneM w0 k1 c1 s1 v1 w) (hb : Below w.heap.size w w') : OneM w0 k1 c1 s1 v1 w' := ⟨h.a.kept hb (Nat.le_refl _), h.bel.trans (hb.mono h.bel.size)⟩

set_option maxRecDepth 100000 in
set_option maxHeartbeats 8000000 in
theorem mback_walk (k1 c1 : Nat) (s1 : Bool) (l : List ArgP) (A : Option Addr) (c : Nat) (A9 : Option Addr) (c9 d9 : Nat) (b : List UInt8) (w : World) (hk1 : k1 < 256) (hc1 : c1 < 256) (hl : ListA w l A c) (hb : Shows w d9 (.slice A9 b.length c9) b) (hbl : b.length ≤ 140737488351232) :
    Calls Try.prog 6 #[.agg #[.int .u8 k1, .int .u8 c1, .bool s1, .slice A l.length c], .slice A9 b.length c9] w fun e w' => e = .returned (.bool true) ∧ Below w.heap.size w w' := by
  have HSM := Lib.hid (fun w' (hw' : Below w.heap.size w w') => msmall_any k1 c1 s1 l A c w' (hl.kept hw' (Nat.le_refl _)))
  unfold SmallM at HSM
  have HH := Lib.hid mhead_any
  have HP := Lib.hid (fun (hc : ∀ a ∈ l, cntT a.v ≤ 400) w' (hw' : Below w.heap.size w w') => mput_any k1 c1 s1 l A c w' (hl.kept hw' (Nat.le_refl _)) (fun a ha => by have := hc a ha; omega))
  have HSAME := Lib.hid (fun (hc : ∀ a ∈ l, cntT a.v ≤ 400) k2 c2 s2 m A' c' w' (hw' : Below w.heap.size w w') (hm : ListA w' m A' c') => msame_any k1 c1 s1 l A c k2 c2 s2 m A' c' w' (hl.kept hw' (Nat.le_refl _)) hm (fun a ha => by have := hc a ha; omega))
  have HGB := Lib.hid (fun w' (hw' : Below w.heap.size w w') => mget_any (.slice A9 b.length c9) b d9 w' (hb.keep hw'.size (fun hp => hw'.block d9 (hb.lt hp))) hbl)
  have HBC := Lib.hid (fun w' (hw' : Below w.heap.size w w') => conv_at (hb.keep hw'.size (fun hp => hw'.block d9 (hb.lt hp)) : Shows w' d9 (.slice A9 b.length c9) b))
  have HOK := Lib.hid (show okM ⟨k1, c1, s1, l⟩ from ⟨hk1, hc1, hl.ok⟩)
  have hT : OneM w k1 c1 s1 (.slice A l.length c) _ := ⟨BoxM.new w k1 c1 s1 (.slice A l.length c), below_box w _⟩
  have p0 := hT.a.c0
  have p1 := hT.a.c1
  have p2 := hT.a.c2
  have p3 := hT.a.c3
  have H0 := Lib.hid hT
  clear hT hl hb hk1 hc1 hbl
  go_enter Try.func6, Try.ntmps6
  go_wp2_with fail
  have hG := H0.out
  clear H0 p0 p1 p2 p3
  generalize (w.alloc (Obj.cells #[.int .u8 k1, .int .u8 c1, .bool s1, .slice A l.length c] 53)) = W at *
  refine (HSM.out _ hG.bel).mono ?_
  rintro e w1 ⟨r1, rfl, hr1, hb1⟩
  have hG := hG.step hb1
  cases r1 with
  | false =>
    go_wp2_with fail
    refine (HH.out _).mono ?_
    rintro e w2 ⟨rfl, hb2⟩
    have hG := hG.step hb2
    go_wp2_with fail
    go_ret
    exact ⟨rfl, hG.bel⟩
  | true =>
  have HCN := Lib.hid (hr1 rfl).2
  clear hr1 HSM
  by_cases hlen : b.length ≤ 20000
  case neg =>
    have hlI : (20000 : Int) < (b.length : Int) := by omega
    go_wp2_with fail
    refine (HH.out _).mono ?_
    rintro e w2 ⟨rfl, hb2⟩
    have hG := hG.step hb2
    go_wp2_with fail
    go_ret
    exact ⟨rfl, hG.bel⟩
  have hlI : ¬ (20000 : Int) < (b.length : Int) := by omega
  have p0 := hG.a.c0
  have p1 := hG.a.c1
  have p2 := hG.a.c2
  have p3 := hG.a.c3
  go_upto_region 3 with fail
  have HPa := Lib.hid (HP.out HCN.out w1 hG.bel)
  go_wp2_with fail
  refine HPa.out.mono ?_
  rintro e w2 ⟨x, rfl, hx, hb2⟩
  have hG := hG.step hb2
  clear p0 p1 p2 p3 hb1 hb2 HP HPa
  have p0 := hG.a.c0
  have p1 := hG.a.c1
  have p2 := hG.a.c2
  have p3 := hG.a.c3
  go_upto_if 28 with fail
  go_cut [] from 27 to 41 (fun wx => OneM w k1 c1 s1 (.slice A l.length c) wx)
  case first =>
    by_cases he : errPM ⟨k1, c1, s1, l⟩ = 0
    case neg =>
      have hcI : ((errPM ⟨k1, c1, s1, l⟩ : Int) == 0) = false := by rw [beq_eq_false_iff_ne]; omega
      go_wp2_with fail
      go_meet
      exact hG
    have hcI : ((errPM ⟨k1, c1, s1, l⟩ : Int) == 0) = true := by rw [he]; rfl
    have hv : validM ⟨k1, c1, s1, l⟩ := by
      by_cases hv : validM ⟨k1, c1, s1, l⟩
      · exact hv
      · unfold errPM at he; rw [if_neg hv] at he; cases he
    have hout : outPM ⟨k1, c1, s1, l⟩ = m_putM ⟨k1, c1, s1, l⟩ := if_pos hv
    rw [hout] at hx
    obtain ⟨gx, hx⟩ := hx
    have HG := Lib.hid (mget_any x _ gx w2 hx (Nat.le_trans (m_put_len hv) (by omega)))
    rw [get_back hv HOK.out] at HG
    generalize errM (m_putM ⟨k1, c1, s1, l⟩) = E9 at *
    generalize errPM ⟨k1, c1, s1, l⟩ = E1 at *
    have HSE := Lib.hid (fun A' c' w' (hw' : Below w.heap.size w w') (hm : ListA w' l A' c') => HSAME.out HCN.out k1 c1 s1 l A' c' w' hw' hm)
    rw [(sameM_iff ⟨k1, c1, s1, l⟩ _).2 rfl] at HSE
    clear hx hout hv he
    go_wp2_with fail
    refine HG.out.mono ?_
    rintro e w3 hsaid
    obtain ⟨A3, c3, rfl, hl3, hb3⟩ := hsaid.ans
    simp only [ansM] at hl3 ⊢
    have hG3 := hG.step hb3
    clear hsaid p0 p1 p2 p3 hG
    go_upto_region 6 with fail
    obtain ⟨W4, hW4⟩ : ∃ W4, W4 = w3.alloc (Obj.cells #[.int .u8 k1, .int .u8 c1, .bool s1, .slice A3 l.length c3] 53) := ⟨_, rfl⟩
    have hb4 : Below w3.heap.size w3 W4 := by rw [hW4]; exact below_box _ _
    have hG4 := hG3.step hb4
    have hX4 : BoxM W4 w3.heap.size k1 c1 s1 (.slice A3 l.length c3) := by rw [hW4]; exact BoxM.new w3 k1 c1 s1 _
    have HSX := Lib.hid (HSE.out A3 c3 W4 hG4.bel (hl3.kept hb4 (Nat.le_refl _)))
    rw [← hW4]
    clear hW4 hb4 hl3 hG3 hb3
    have p0 := hG4.a.c0
    have p1 := hG4.a.c1
    have p2 := hG4.a.c2
    have p3 := hG4.a.c3
    have q0 := hX4.c0
    have q1 := hX4.c1
    have q2 := hX4.c2
    have q3 := hX4.c3
    go_wp2_with fail
    refine HSX.out.mono ?_
    rintro e w5 ⟨rfl, hb5⟩
    have hG5 := hG4.step hb5
    clear p0 p1 p2 p3 q0 q1 q2 q3 hX4 hG4 hb5
    go_wp2_with fail
    go_meet
    exact hG5
  case rest =>
    clear p0 p1 p2 p3 hG HSAME HCN hx
    have HGX := Lib.hid (HGB.out wc hcut.bel)
    go_wp2_with fail
    refine HGX.out.mono ?_
    rintro e w3 hsaid
    have HCB := Lib.hid (fun w' (hw' : Below w.heap.size w w') => HBC.out w' hw')
    clear HGX HGB HBC
    cases hg : m_getM b with
    | none =>
      rw [hg] at hsaid
      obtain ⟨hb3, ⟨_, rfl⟩ | ⟨m, A', c', h0, _⟩⟩ := hsaid
      case inr => cases h0
      have hG3 := hcut.step hb3
      have hne : ((errM b : Int) != 0) = true := by
        rcases get_none_err hg with h | h | h <;> rw [h] <;> rfl
      obtain ⟨q, hq⟩ : ∃ q, q = decide (b.length < 2) := ⟨_, rfl⟩
      have tA : ((errM b : Int) == 4) = q := by
        rw [hq]
        unfold errM
        by_cases h2 : b.length < 2
        · rw [if_pos h2, decide_eq_true h2]; rfl
        · rw [if_neg h2, decide_eq_false h2]
          split <;> rfl
      have tB : decide ((b.length : Int) < 2) = q := by rw [hq]; congr 1; exact propext ⟨fun h => by omega, fun h => by omega⟩
      have HZ := Lib.hid (fun w' => (show Calls Try.prog 19 #[.agg #[.int .u8 0, .int .u8 0, .bool false, .slice none 0 0], .agg #[.int .u8 0, .int .u8 0, .bool false, .slice none 0 0]] w' fun e w'' => e = .returned (.bool true) ∧ Below w'.heap.size w' w'' from by
        have h := msame_any 0 0 false [] none 0 0 0 false [] none 0 w' (ListA.nil _) (ListA.nil _) (by simp)
        rw [(sameM_iff ⟨0, 0, false, []⟩ _).2 rfl] at h
        exact h))
      generalize errM b = E9 at *
      unfold zeroMV
      clear hq hcut hb3 hg HCB HOK
      go_upto_region 9 with fail
      obtain ⟨W4, hW4⟩ : ∃ W4, W4 = w3.alloc (Obj.cells #[.int .u8 0, .int .u8 0, .bool false, .slice none 0 0] 53) := ⟨_, rfl⟩
      have hb4 : Below w3.heap.size w3 W4 := by rw [hW4]; exact below_box _ _
      have hG4 := hG3.step hb4
      have hX4 : BoxM W4 w3.heap.size 0 0 false (.slice none 0 0) := by rw [hW4]; exact BoxM.new w3 0 0 false _
      rw [← hW4]
      clear hW4 hb4 hG3
      have q0 : W4.cell? ⟨w3.heap.size, 0, none⟩ = some (.int .u8 0) := hX4.c0
      have q1 : W4.cell? ⟨w3.heap.size, 1, none⟩ = some (.int .u8 0) := hX4.c1
      have q2 := hX4.c2
      have q3 := hX4.c3
      go_wp2_with fail
      refine (HZ.out _).mono ?_
      rintro e w5 ⟨rfl, hb5⟩
      have hG5 := hG4.step hb5
      clear q0 q1 q2 q3 hX4 hG4 hb5
      cases q <;>
        (go_wp2_with fail
         refine (HH.out _).mono ?_
         rintro e w6 ⟨rfl, hb6⟩
         have hG6 := hG5.step hb6
         go_wp2_with fail
         go_ret
         exact ⟨rfl, hG6.bel⟩)
    | some m =>
      rw [hg] at hsaid
      obtain ⟨A3, c3, rfl, hl3, hb3⟩ := hsaid.ans
      obtain ⟨hvm, hom, hput⟩ := get_sound hg
      have hcm := m_getM_cnt hg
      have hG3 := hcut.step hb3
      have HPm := Lib.hid (fun w' (hw' : Below w3.heap.size w3 w') => mput_any m.cl m.co m.sy m.args A3 c3 w' (ListA.kept hl3 hw' (Nat.le_refl _)) hcm)
      have e0 : errPM ⟨m.cl, m.co, m.sy, m.args⟩ = 0 := if_pos hvm
      have o0 : outPM ⟨m.cl, m.co, m.sy, m.args⟩ = b := (if_pos hvm).trans hput
      rw [e0, o0] at HPm
      simp only [ansM] at hl3 ⊢
      obtain ⟨mc, mo, ms, ml⟩ := m
      simp only [] at HPm ⊢
      clear hcut hg hvm hom hput hcm e0 o0 hb3 hl3 HOK
      go_upto_region 9 with fail
      obtain ⟨W4, hW4⟩ : ∃ W4, W4 = w3.alloc (Obj.cells #[.int .u8 mc, .int .u8 mo, .bool ms, .slice A3 ml.length c3] 53) := ⟨_, rfl⟩
      have hb4 : Below w3.heap.size w3 W4 := by rw [hW4]; exact below_box _ _
      have hG4 := hG3.step hb4
      have hX4 : BoxM W4 w3.heap.size mc mo ms (.slice A3 ml.length c3) := by rw [hW4]; exact BoxM.new w3 mc mo ms _
      have HPX := Lib.hid (HPm.out W4 hb4)
      rw [← hW4]
      clear hW4 hb4 hG3 HPm
      have q0 := hX4.c0
      have q1 := hX4.c1
      have q2 := hX4.c2
      have q3 := hX4.c3
      go_wp2_with fail
      refine HPX.out.mono ?_
      rintro e w5 ⟨y, rfl, ⟨gy, hy⟩, hb5⟩
      have hG5 := hG4.step hb5
      have cy := conv_at hy
      have cb := HCB.out w5 hG5.bel
      clear q0 q1 q2 q3 hX4 hG4 hb5 hy HPX
      go_wp2_with fail
      refine (HH.out _).mono ?_
      rintro e w6 ⟨rfl, hb6⟩
      have hG6 := hG5.step hb6
      go_wp2_with fail
      go_ret
      exact ⟨rfl, hG6.bel⟩

set_option maxRecDepth 100000 in
set_option maxHeartbeats 1000000 in
theorem mback_walk_lifted (os : Os) (started : os.Started) (H : Type) (enc : TypeId × Value → H) :
    ReturnsInHanded {} Try.checked os 6 .any (Rows.methodBackSpec.pre6 enc Try.prog Try.f6 Rows.methodBackRow.domain false) (Rows.methodBackSpec.post enc Try.prog Try.f6 false true false false) := by
  refine returnsInHanded_of_change_sized (C := Try.checked) own started (by kernel_rfl) Try.func6
    (ChangeSpec.witness6 (enc := enc) (C := Try.checked) false ⟨#[], #[.agg #[.int .u8 0, .int .u8 0, .bool false, .slice none 0 0], .slice none 0 0], []⟩ 8 (by kernel_rfl) (by kernel_rfl) (by kernel_rfl) (by kernel_rfl)) ?_
  intro W base args ds gs before hval0 hW hcnd hsz0 _
  have hval : ∀ (j : Nat) t v, Try.f6.params[j]? = some t → args[j]? = some v → Value.okWide Try.prog W .any base t v := hval0
  have hsz : (DataW.weightsEach Try.prog (Try.f6.params.toList ++ Rows.methodBackSpec.plain.varTypes Try.prog) (ds ++ gs)).all (· ≤ reachBytes) = true := hsz0
  have hW' := hW
  obtain ⟨p, q, hA0, hV, rfl, hfz, hnd⟩ := hW
  have hA : DataW.TrodAll enc Try.prog W 0 (fun _ => true) true Try.f6.params.toList args.toList ds p := hA0
  rw [Try.params6] at hA hval hsz
  obtain ⟨v0, vs0, d0, ds0, p0, q0, hargs, rfl, rfl, h0, r0⟩ := trodAll_cons hA
  obtain ⟨v1, vs1, d1, ds1, p1, q1, rfl, rfl, rfl, h1, r1⟩ := trodAll_cons r0
  obtain ⟨rfl, rfl, rfl⟩ := trodAll_nil r1
  obtain rfl : args = #[v0, v1] := by cases args; simp_all
  obtain ⟨rfl, rfl⟩ := trodVars_none hV
  have k0 := h0
  have lt0 : ∀ x ∈ p0, x.block < W.heap.size := by obtain ⟨m, hm⟩ := k0; exact DataW.trod_lt m _ _ _ hm
  have k1 := h1
  have lt1 : ∀ x ∈ p1, x.block < W.heap.size := by obtain ⟨m, hm⟩ := k1; exact DataW.trod_lt m _ _ _ hm
  obtain ⟨cl0, co0, sy0, L0, A0, c0, rfl, clb0, cob0, sh0⟩ := open_method (hval 0 53 v0 rfl rfl) h0 hsz 0 rfl rfl
  obtain ⟨A1, c1, b1, L1, rfl, sh1, l1⟩ := open_bytes Try.underlying57 Try.underlying5 (by kernel_rfl) bytes5 (hval 1 57 v1 rfl rfl) h1 hsz 1 rfl rfl
  clear hA0 hval0
  refine (mback_walk cl0 co0 sy0 L0 A0 c0 A1 c1 b1 L1 W clb0 cob0 sh0 sh1 (by omega)).mono fun e W' ⟨he, bel⟩ => ?_
  subst he
  exact ⟨_, rfl, _, _, _, [], _, [], hW', trodAll_mk1 (shut_bool Try.underlying4 _), (trodAll_cons_mk (Below.trod laidOut (by kernel_rfl) (of_decide_eq_true (by kernel_rfl)) k0 bel lt0) (trodAll_cons_mk (Below.trod laidOut (by kernel_rfl) (of_decide_eq_true (by kernel_rfl)) k1 bel lt1) trodAll_mk0)), rfl, bel.frame _, fun h => by cases h⟩

theorem methodBack_holds : Rows.MethodBackSaid :=
  OpenClaim.holds_of_wide 6 Try.f6 rfl rfl rfl rfl rfl rfl rfl ⟨rfl, rfl, rfl, rfl, rfl⟩ rfl rfl rfl rfl rfl (by kernel_rfl) Try.func6 (by kernel_rfl)
    (of_decide_eq_true (by kernel_rfl)) (by unfold Func.isWrapper; first | (rw [if_pos (by decide +kernel)]; kernel_rfl) | (rw [if_neg (by decide +kernel)]; exact ⟨rfl, rfl⟩))
    (fun os started H enc _ => mback_walk_lifted os started H enc)
#print axioms methodBack_holds
end Go.Proofs.Ytnafibnhmhbfiab
