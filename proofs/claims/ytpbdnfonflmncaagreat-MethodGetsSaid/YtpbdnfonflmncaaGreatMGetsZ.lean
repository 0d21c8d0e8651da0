/-
  For all bytes of at most 20000: the program's Get tells the method and the error that the document's Get tells, and leaves the bytes alone.
  Conditions: none.
-/
import Derived.Test.YtpbdnfonflmncaaGreatMtG1Z
import Derived.Test.YtpbdnfonflmncaaGreatMeUCZ
import Derived.Test.YtpbdnfonflmncaaGreatValOZ
namespace Go.Proofs.YtpbdnfonflmncaaGreat
open Go.ChangeShapes Go.WideShapes Go.ChangeAt Go.RowKit
open Go.ChangeMaps (open_string shut_string)
set_option linter.unusedVariables false
set_option linter.unusedSimpArgs false
theorem mgetg_any (v : Value) (l : List UInt8) (d : Nat) (w : World) (h : Shows w d v l) (hl : l.length ≤ 140737488351232) : Calls Tryz.prog 12 #[v] w (MGetSaid (m_getM l) (errM l) w) :=
  mget_law (fun b d sk s w h hl hk h3 => args_any b d sk s w h hl hk h3) v l d w h hl
def ansG (o : Option MethP) (er : Nat) : MethP × Nat :=
  match o with
  | none => (⟨0, 0, false, []⟩, er)
  | some m => (m, 0)
theorem MGetSaid.ansG {o : Option MethP} {er : Nat} {w w' : World} {e : Ending} (h : MGetSaid o er w e w') :
    ∃ A c, e = .returned (.tuple #[.agg #[.int .u8 (ansG o er).1.cl, .int .u8 (ansG o er).1.co, .bool (ansG o er).1.sy, .slice A (ansG o er).1.args.length c], .int .i64 (ansG o er).2]) ∧ ListA w' (ansG o er).1.args A c ∧ Below w.heap.size w w' := by
  obtain ⟨hb, ⟨rfl, h⟩ | ⟨m, A, c, rfl, h, hl⟩⟩ := h
  · exact ⟨none, 0, h.trans rfl, ListA.nil _, hb⟩
  · exact ⟨A, c, h, hl, hb⟩
set_option maxRecDepth 100000 in
set_option maxHeartbeats 4000000 in
theorem mgets_walk (A : Option Addr) (c d : Nat) (b : List UInt8) (w : World) (hb : Shows w d (.slice A b.length c) b) (hl : b.length ≤ 140737488351232) :
    Calls Tryz.prog 4 #[.slice A b.length c] w fun e w' => e = .returned (.bool true) ∧ Below w.heap.size w w' := by
  have HH := Lib.hid mhead_any
  by_cases hlen : b.length ≤ 20000
  case neg =>
    have hlI : (20000 : Int) < (b.length : Int) := by omega
    clear hb
    go_enter Tryz.func4, Tryz.ntmps4
    go_wp2_with fail
    refine (HH.out _).mono ?_
    rintro e w2 ⟨rfl, hb2⟩
    go_wp2_with fail
    go_ret
    exact ⟨rfl, hb2⟩
  have hlI : ¬ (20000 : Int) < (b.length : Int) := by omega
  have HB := Lib.hid hb
  have HBK := Lib.hid (fun w' (hw' : Below w.heap.size w w') => shows_kept hb hw')
  have HG := Lib.hid (fun v g w' (h : Shows w' g v b) => mgetg_any v b g w' h hl)
  have HQ := Lib.hid (fun w' (hw' : Below w.heap.size w w') => qmget_any b A c d w' (shows_kept hb hw') hlen)
  have HA := Lib.hid (fun w0 e' w'' (h : MGetSaid (m_getM b) (errM b) w0 e' w'') => h.ansG)
  generalize ansG (m_getM b) (errM b) = S at *
  generalize m_getM b = O at *
  generalize errM b = E at *
  obtain ⟨⟨mc, mo, ms, ml⟩, er⟩ := S
  dsimp only at HA
  clear hb
  go_enter Tryz.func4, Tryz.ntmps4
  go_upto_region 4 with (at_builtin; refine wpList_append8 _ rfl (.const (.slice none 0 0)) (.tmp 12) 28 rfl w.heap.size 5 Tryz.underlying28 info5 (.slice none 0 0) [] rfl (Own.nil_ _ _ _) d _ b rfl HB.out (by simp; omega) (Nat.le_refl _) ?_; intro v1 w1 ho1 hg1)
  rw [List.nil_append] at ho1
  have hb1 : Below w.heap.size w w1 := (Below.refl _ _).grown hg1 (Nat.le_refl _) (by simp [Value.ownBlock])
  have HB1 := Lib.hid hb1
  obtain ⟨g1, _, hs1⟩ := ho1.shows
  have HS1 := Lib.hid hs1
  have HC1 := Lib.hid (HG.out v1 g1 w1 hs1)
  clear ho1 hs1 hb1 hg1 HG
  go_wp2_with fail
  refine HC1.out.mono ?_
  rintro e w2 h2
  obtain ⟨A2, c2, rfl, hl2, hb2⟩ := HA.out _ _ _ h2
  have HB2 := Lib.hid (HB1.out.trans (hb2.mono HB1.out.size))
  have HS2 := Lib.hid (shows_kept HS1.out hb2)
  clear h2 hb2 HC1
  go_upto_region 5 with fail
  obtain ⟨W3, hW3⟩ : ∃ W3, W3 = w2.alloc (Obj.cells #[.int .u8 mc, .int .u8 mo, .bool ms, .slice A2 ml.length c2] 24) := ⟨_, rfl⟩
  have hbA : Below w2.heap.size w2 W3 := by rw [hW3]; exact below_box _ _
  have hX3 : BoxM W3 w2.heap.size mc mo ms (.slice A2 ml.length c2) := by rw [hW3]; exact BoxM.new w2 mc mo ms _
  have hB3 := HB2.out.trans (hbA.mono HB2.out.size)
  have hl3 := hl2.kept hbA (Nat.le_refl _)
  have hs3 := shows_kept HS2.out hbA
  rw [← hW3]
  have HX3 := Lib.hid hX3
  have HB3 := Lib.hid hB3
  have HL3 := Lib.hid hl3
  have HS3 := Lib.hid hs3
  have HQ3 := Lib.hid (HQ.out W3 hB3)
  clear hW3 hbA hX3 hB3 hl3 hs3 hl2 HQ
  generalize w2.heap.size = P2 at *
  go_wp2_with fail
  refine HQ3.out.mono ?_
  rintro e w4 h4
  obtain ⟨A4, c4, rfl, hl4, hb4⟩ := HA.out _ _ _ h4
  clear h4 HQ3
  go_upto_region 6 with fail
  obtain ⟨W5, hW5⟩ : ∃ W5, W5 = w4.alloc (Obj.cells #[.int .u8 mc, .int .u8 mo, .bool ms, .slice A4 ml.length c4] 24) := ⟨_, rfl⟩
  have hbA : Below w4.heap.size w4 W5 := by rw [hW5]; exact below_box _ _
  have hX5 : BoxM W5 w4.heap.size mc mo ms (.slice A4 ml.length c4) := by rw [hW5]; exact BoxM.new w4 mc mo ms _
  have hB4 := HB3.out.trans (hb4.mono HB3.out.size)
  have hB5 := hB4.trans (hbA.mono hB4.size)
  have hY5 := (HX3.out.kept hb4 (Nat.le_refl _)).kept hbA (Nat.le_refl _)
  have hl5 := hl4.kept hbA (Nat.le_refl _)
  have hm5 := (HL3.out.kept hb4 (Nat.le_refl _)).kept hbA (Nat.le_refl _)
  have HS5 := Lib.hid (shows_kept (shows_kept HS3.out hb4) hbA)
  have hsame := qmsame_any mc mo ms ml A2 c2 mc mo ms ml A4 c4 W5 hm5 hl5
  rw [(sameM_iff ⟨mc, mo, ms, ml⟩ _).2 rfl] at hsame
  have HSM := Lib.hid hsame
  have HB5 := Lib.hid hB5
  rw [← hW5]
  clear hW5 hbA hB4 hB5 hl5 hm5 hl4 hb4 hsame
  generalize w4.heap.size = P4 at *
  have x0 := hX5.c0
  have x1 := hX5.c1
  have x2 := hX5.c2
  have x3 := hX5.c3
  have y0 := hY5.c0
  have y1 := hY5.c1
  have y2 := hY5.c2
  have y3 := hY5.c3
  have tE : ((er : Int) == (er : Int)) = true := by simp
  clear hX5 hY5
  go_wp2_with fail
  refine HSM.out.mono ?_
  rintro e w6 ⟨rfl, hb6⟩
  have hB6 := HB5.out.trans (hb6.mono HB5.out.size)
  have cv1 := conv_at (shows_kept HS5.out hb6)
  have cv2 := conv_at (HBK.out w6 hB6)
  clear x0 x1 x2 x3 y0 y1 y2 y3
  go_wp2_with fail
  refine (HH.out _).mono ?_
  rintro e w7 ⟨rfl, hb7⟩
  go_wp2_with fail
  go_ret
  exact ⟨rfl, hB6.trans (hb7.mono hB6.size)⟩
set_option maxRecDepth 100000 in
set_option maxHeartbeats 1000000 in
theorem mgets_walk_lifted (os : Os) (started : os.Started) (H : Type) (enc : TypeId × Value → H) :
    ReturnsInHanded {} Tryz.checked os 4 .any (Rows.methodGetsSpec.pre6 enc Tryz.prog Tryz.f4 Rows.methodGetsRow.domain false) (Rows.methodGetsSpec.post enc Tryz.prog Tryz.f4 false true false false) := by
  refine returnsInHanded_of_change_sized (C := Tryz.checked) own started (by kernel_rfl) Tryz.func4
    (ChangeSpec.witness6 (enc := enc) (C := Tryz.checked) false ⟨#[], #[.slice none 0 0], []⟩ 8 (by kernel_rfl) (by kernel_rfl) (by kernel_rfl) (by kernel_rfl)) ?_
  intro W base args ds gs before hval0 hW hcnd hsz0 _
  have hval : ∀ (j : Nat) t v, Tryz.f4.params[j]? = some t → args[j]? = some v → Value.okWide Tryz.prog W .any base t v := hval0
  have hsz : (DataW.weightsEach Tryz.prog (Tryz.f4.params.toList ++ Rows.methodGetsSpec.plain.varTypes Tryz.prog) (ds ++ gs)).all (· ≤ reachBytes) = true := hsz0
  have hW' := hW
  obtain ⟨p, q, hA0, hV, rfl, hfz, hnd⟩ := hW
  have hA : DataW.TrodAll enc Tryz.prog W 0 (fun _ => true) true Tryz.f4.params.toList args.toList ds p := hA0
  rw [Tryz.params4] at hA hval hsz
  obtain ⟨v0, vs0, d0, ds0, p0, q0, hargs, rfl, rfl, h0, r0⟩ := trodAll_cons hA
  obtain ⟨rfl, rfl, rfl⟩ := trodAll_nil r0
  obtain rfl : args = #[v0] := by cases args; simp_all
  obtain ⟨rfl, rfl⟩ := trodVars_none hV
  have k0 := h0
  have lt0 : ∀ x ∈ p0, x.block < W.heap.size := by obtain ⟨m, hm⟩ := k0; exact DataW.trod_lt m _ _ _ hm
  obtain ⟨A0, c0, b0, L0, rfl, sh0, l0⟩ := open_bytes Tryz.underlying28 Tryz.underlying5 (by kernel_rfl) bytes5 (hval 0 28 v0 rfl rfl) h0 hsz 0 rfl rfl
  clear hA0 hval0
  refine (mgets_walk A0 c0 b0 L0 W sh0 (by omega)).mono fun e W' ⟨he, bel⟩ => ?_
  subst he
  exact ⟨_, rfl, _, _, _, [], _, [], hW', trodAll_mk1 (shut_bool Tryz.underlying4 _), (trodAll_cons_mk (Below.trod laidOut (by kernel_rfl) (of_decide_eq_true (by kernel_rfl)) k0 bel lt0) trodAll_mk0), rfl, bel.frame _, fun h => by cases h⟩
theorem methodGets_holds : Rows.MethodGetsSaid :=
  OpenClaim.holds_of_wide 4 Tryz.f4 rfl rfl rfl rfl rfl rfl rfl ⟨rfl, rfl, rfl, rfl, rfl⟩ rfl rfl rfl rfl rfl (by kernel_rfl) Tryz.func4 (by kernel_rfl)
    (of_decide_eq_true (by kernel_rfl)) (by unfold Func.isWrapper; first | (rw [if_pos (by decide +kernel)]; kernel_rfl) | (rw [if_neg (by decide +kernel)]; exact ⟨rfl, rfl⟩))
    (fun os started H enc _ => mgets_walk_lifted os started H enc)
#print axioms methodGets_holds
end Go.Proofs.YtpbdnfonflmncaaGreat
