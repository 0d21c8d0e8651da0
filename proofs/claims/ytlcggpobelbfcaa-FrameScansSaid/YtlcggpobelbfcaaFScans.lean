/-
  For all bytes of at most 20000: Scan of package frame tells what the document's own Scan tells, and leaves the bytes as they were.
  Conditions: none.
-/
import Derived.Test.YtlcggpobelbfcaaFrS
import Derived.Test.YtlcggpobelbfcaaFrO
namespace Go.Proofs.Ytlcggpobelbfcaa
open Go.ChangeShapes Go.WideShapes Go.ChangeAt Go.RowKit
open Go.ChangeMaps (open_string shut_string)
set_option linter.unusedVariables false
set_option linter.unusedSimpArgs false

set_option maxRecDepth 100000 in
set_option maxHeartbeats 4000000 in
theorem fscans_walk (A : Option Addr) (c d : Nat) (b : List UInt8) (w : World) (h : Shows w d (.slice A b.length c) b) (hbl : b.length ≤ 140737488351232) :
    Calls Try.prog 6 #[.slice A b.length c] w fun e w' => e = .returned (.bool true) ∧ Below w.heap.size w w' := by
  obtain ⟨_, hbc, hcm⟩ := h.lens
  have HH := Lib.hid fhead_any
  by_cases hlong : 20000 < b.length
  · have hi : (20000 : Int) < (b.length : Int) := by omega
    clear h
    go_enter Try.func6, Try.ntmps6
    go_wp2_with fail
    refine (HH.out _).mono ?_
    rintro e w4 ⟨rfl, hb4⟩
    go_wp2_with fail
    go_ret
    exact ⟨rfl, hb4⟩
  · have hi : ¬ (20000 : Int) < (b.length : Int) := by omega
    have HB := Lib.hid h
    have HSC := Lib.hid (fun A c d l w h hl => scan_any A c d l w h hl)
    have HQS := Lib.hid (fun w' (hb : Below w.heap.size w w') => qscan_any A c d b w' (shows_kept h hb) (by omega))
    have hsl := scan_len b
    unfold ScanSaid at HSC HQS
    clear h
    go_enter Try.func6, Try.ntmps6
    go_upto_region 4 with (at_builtin; refine wpList_append8 _ rfl (.const (.slice none 0 0)) (.tmp 14) 22 rfl w.heap.size 5 Try.underlying22 info5 (.slice none 0 0) [] rfl (Own.nil_ _ _ _) d _ b rfl HB.out (by simp; omega) (Nat.le_refl _) ?_; intro v1 w1 ho1 hg1)
    rw [List.nil_append] at ho1
    have hb1 : Below w.heap.size w w1 := (Below.refl _ _).grown hg1 (Nat.le_refl _) (by simp [Value.ownBlock])
    have HB1 := Lib.hid hb1
    obtain ⟨g1, _, hs1⟩ := ho1.shows
    obtain ⟨A1, c1, hv1, _, _⟩ := ho1.form
    subst hv1
    have HS1 := Lib.hid hs1
    have HC1 := Lib.hid (HSC.out A1 c1 g1 b w1 hs1 (by omega))
    clear ho1 hs1 hb1 hg1
    generalize hsd : scanD b = sd at *
    have HSD := Lib.hid hsd
    generalize errD b = er at *
    clear hsd
    obtain ⟨fs, n⟩ := sd
    simp only [] at HC1 HQS hsl
    go_wp2_with fail
    refine HC1.out.mono ?_
    rintro e w2 ⟨v2, rfl, ho2, hb2⟩
    have HB2 := Lib.hid (HB1.out.trans (hb2.mono HB1.out.size))
    have HB12 := Lib.hid hb2
    obtain ⟨g2, _, hs2⟩ := ho2.shows
    obtain ⟨A2, c2, hv2, _, _⟩ := ho2.form
    subst hv2
    have HS2 := Lib.hid hs2
    clear ho2 hs2 hb2
    go_wp2_with fail
    refine (HQS.out w2 HB2.out).mono ?_
    rintro e w3 ⟨v3, rfl, ho3, hb3⟩
    have HB3 := Lib.hid (HB2.out.trans (hb3.mono HB2.out.size))
    obtain ⟨g3, _, hs3⟩ := ho3.shows
    obtain ⟨A3, c3, hv3, _, _⟩ := ho3.form
    subst hv3
    have HSM := Lib.hid (qfsame_true A2 A3 c2 c3 fs.length fs.length g2 g3 fs fs w3 rfl rfl (shows_keepG HS2.out hb3) hs3 (by omega) (by omega) rfl)
    have hcv1 := Lib.hid (shows_kept HS1.out (HB12.out.trans (hb3.mono HB12.out.size)))
    have hcv2 := Lib.hid (shows_kept HB.out HB3.out)
    clear ho3 hs3 hb3
    go_wp2_with fail
    refine HSM.out.mono ?_
    rintro e w4 ⟨rfl, q, rfl⟩
    have k1 := conv_at (hcv1.out.drewN q)
    have k2 := conv_at (hcv2.out.drewN q)
    go_wp2_with fail
    refine (HH.out _).mono ?_
    rintro e w5 ⟨rfl, hb5⟩
    go_wp2_with fail
    go_ret
    exact ⟨rfl, (below_drewN HB3.out q).trans (hb5.mono HB3.out.size)⟩

set_option maxRecDepth 100000 in
set_option maxHeartbeats 1000000 in
theorem fscans_walk_lifted (os : Os) (started : os.Started) (H : Type) (enc : TypeId × Value → H) :
    ReturnsInHanded {} Try.checked os 6 .any (Rows.frameScansSpec.pre6 enc Try.prog Try.f6 Rows.frameScansRow.domain false) (Rows.frameScansSpec.post enc Try.prog Try.f6 false true false false) := by
  refine returnsInHanded_of_change_sized (C := Try.checked) own started (by kernel_rfl) Try.func6
    (ChangeSpec.witness6 (enc := enc) (C := Try.checked) false ⟨#[], #[.slice none 0 0], []⟩ 8 (by kernel_rfl) (by kernel_rfl) (by kernel_rfl) (by kernel_rfl)) ?_
  intro W base args ds gs before hval0 hW hcnd hsz0 _
  have hval : ∀ (j : Nat) t v, Try.f6.params[j]? = some t → args[j]? = some v → Value.okWide Try.prog W .any base t v := hval0
  have hsz : (DataW.weightsEach Try.prog (Try.f6.params.toList ++ Rows.frameScansSpec.plain.varTypes Try.prog) (ds ++ gs)).all (· ≤ reachBytes) = true := hsz0
  have hW' := hW
  obtain ⟨p, q, hA0, hV, rfl, hfz, hnd⟩ := hW
  have hA : DataW.TrodAll enc Try.prog W 0 (fun _ => true) true Try.f6.params.toList args.toList ds p := hA0
  rw [Try.params6] at hA hval hsz
  obtain ⟨v0, vs0, d0, ds0, p0, q0, hargs, rfl, rfl, h0, r0⟩ := trodAll_cons hA
  obtain ⟨rfl, rfl, rfl⟩ := trodAll_nil r0
  obtain rfl : args = #[v0] := by cases args; simp_all
  obtain ⟨rfl, rfl⟩ := trodVars_none hV
  have k0 := h0
  have lt0 : ∀ x ∈ p0, x.block < W.heap.size := by obtain ⟨m, hm⟩ := k0; exact DataW.trod_lt m _ _ _ hm
  obtain ⟨A0, c0, b0, L0, rfl, sh0, l0⟩ := open_bytes Try.underlying22 Try.underlying5 (by kernel_rfl) bytes5 (hval 0 22 v0 rfl rfl) h0 hsz 0 rfl rfl
  clear hA0 hval0
  refine (fscans_walk A0 c0 b0 L0 W sh0 (by omega)).mono fun e W' ⟨he, bel⟩ => ?_
  subst he
  exact ⟨_, rfl, _, _, _, [], _, [], hW', trodAll_mk1 (shut_bool Try.underlying4 _), (trodAll_cons_mk (Below.trod laidOut (by kernel_rfl) (of_decide_eq_true (by kernel_rfl)) k0 bel lt0) trodAll_mk0), rfl, bel.frame _, fun h => by cases h⟩

theorem frameScans_holds : Rows.FrameScansSaid :=
  OpenClaim.holds_of_wide 6 Try.f6 rfl rfl rfl rfl rfl rfl rfl ⟨rfl, rfl, rfl, rfl, rfl⟩ rfl rfl rfl rfl rfl (by kernel_rfl) Try.func6 (by kernel_rfl)
    (of_decide_eq_true (by kernel_rfl)) (by unfold Func.isWrapper; first | (rw [if_pos (by decide +kernel)]; kernel_rfl) | (rw [if_neg (by decide +kernel)]; exact ⟨rfl, rfl⟩))
    (fun os started H enc _ => fscans_walk_lifted os started H enc)
#print axioms frameScans_holds
end Go.Proofs.Ytlcggpobelbfcaa
