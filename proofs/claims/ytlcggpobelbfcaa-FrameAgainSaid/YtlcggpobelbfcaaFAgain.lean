/-
  For all bytes of at most 20000: what Scan of package frame tells, put again, is the bytes that it took.
  Conditions: none.
-/
import Derived.Test.YtlcggpobelbfcaaFrS
import Derived.Test.YtlcggpobelbfcaaFrO
import Derived.Deep.RegionHeld3
namespace Go.Proofs.Ytlcggpobelbfcaa
open Go.ChangeShapes Go.WideShapes Go.ChangeAt Go.RowKit
open Go.ChangeMaps (open_string shut_string)
set_option linter.unusedVariables false
set_option linter.unusedSimpArgs false

/-- Two rows of bytes that can be read. -/
structure TwoB (w0 : World) (v1 : Value) (E1 : List UInt8) (v2 : Value) (E2 : List UInt8) (w : World) : Prop where
  s1 : ∃ g, Shows w g v1 E1
  s2 : ∃ g, Shows w g v2 E2
  bel : Below w0.heap.size w0 w
section
variable {w0 w w' : World} {v1 : Value} {E1 : List UInt8} {v2 : Value} {E2 : List UInt8}
theorem TwoB.step (h : TwoB w0 v1 E1 v2 E2 w) (hb : Below w.heap.size w w') : TwoB w0 v1 E1 v2 E2 w' := by
  obtain ⟨⟨g1, h1⟩, ⟨g2, h2⟩, h3⟩ := h
  exact ⟨⟨g1, shows_kept h1 hb⟩, ⟨g2, shows_kept h2 hb⟩, h3.trans (hb.mono h3.size)⟩
theorem TwoB.drew (h : TwoB w0 v1 E1 v2 E2 w) : TwoB w0 v1 E1 v2 E2 w.drew := ⟨h.s1, h.s2, below_drew1 h.bel⟩
theorem TwoB.cells (h : TwoB w0 v1 E1 v2 E2 w) : (convert 22 9 v1).run Try.prog w = .ok (.string (str8 E1)) w ∧ (convert 22 9 v2).run Try.prog w = .ok (.string (str8 E2)) w := by
  obtain ⟨⟨g1, h1⟩, ⟨g2, h2⟩, _⟩ := h
  exact ⟨conv_at h1, conv_at h2⟩
end

set_option maxRecDepth 100000 in
set_option maxHeartbeats 4000000 in
theorem fagain_walk (A : Option Addr) (c d : Nat) (b : List UInt8) (w : World) (h : Shows w d (.slice A b.length c) b) (hbl : b.length ≤ 140737488351232) :
    Calls Try.prog 8 #[.slice A b.length c] w fun e w' => e = .returned (.bool true) ∧ Below w.heap.size w w' := by
  obtain ⟨_, hbc, hcm⟩ := h.lens
  have HH := Lib.hid fhead_any
  by_cases hlong : 20000 < b.length
  · have hi : (20000 : Int) < (b.length : Int) := by omega
    clear h
    go_enter Try.func8, Try.ntmps8
    go_wp2_with fail
    refine (HH.out _).mono ?_
    rintro e w4 ⟨rfl, hb4⟩
    go_wp2_with fail
    go_ret
    exact ⟨rfl, hb4⟩
  · have hi : ¬ (20000 : Int) < (b.length : Int) := by omega
    have HB := Lib.hid h
    have HSC := Lib.hid (scan_any A c d b w h (by omega))
    have hsl := scan_len b
    have hle := scan_le b
    have hag := scan_again _ b (Nat.le_refl _)
    have hec := err_cases b
    unfold ScanSaid at HSC
    have hmy := mayL_all hag.1
    have HAG := Lib.hid hag
    have HMY := Lib.hid hmy
    clear h hag hmy
    generalize scanD b = sd at *
    obtain ⟨fs, n⟩ := sd
    simp only [] at HSC HAG HMY hsl hle
    have hnc : n ≤ c := by omega
    have HBY := Lib.hid (fun A c d w h hl => fbytes_any A c d fs w h hl (fun f hf => (HAG.out.1 f hf).1))
    rw [HMY.out, HAG.out.2] at HBY
    generalize errD b = er at *
    have hn0 : ¬ (n : Int) < 0 := by omega
    have hnb : ¬ b.length < n := by omega
    rcases hec with rfl | rfl
    all_goals
      go_enter Try.func8, Try.ntmps8
      go_wp2_with fail
      refine HSC.out.mono ?_
      rintro e w2 ⟨v2, rfl, ho2, hb2⟩
      have HB2 := Lib.hid hb2
      obtain ⟨g2, _, hs2⟩ := ho2.shows
      obtain ⟨A2, c2, hv2, _, _⟩ := ho2.form
      subst hv2
      have HBC := Lib.hid (HBY.out A2 c2 g2 w2 hs2 (by omega))
      clear ho2 hs2 hb2
      go_wp2_with fail
      refine HBC.out.mono ?_
      rintro e w3 ⟨v3, v4, rfl, ho3, hg4, hb3⟩
      have HB3 := Lib.hid (HB2.out.trans (hb3.mono HB2.out.size))
      obtain ⟨g3, _, hs3⟩ := ho3.shows
      obtain ⟨A4, c4, hv4, _, _⟩ := hg4.form
      subst hv4
      have hT : TwoB w v3 (b.take n) (.slice A n c) (b.take n) w3 := ⟨⟨g3, hs3⟩, ⟨d, (shows_kept HB.out HB3.out).head hle⟩, HB3.out⟩
      have HT := Lib.hid hT
      have CH : Hid (∀ w', TwoB w v3 (b.take n) (.slice A n c) (b.take n) w' → Calls Try.prog 22 #[] w' fun e w'' => e = .returned (.bool true) ∧ TwoB w v3 (b.take n) (.slice A n c) (b.take n) w'') := Lib.hid (fun w' h => (HH.out w').mono fun e w'' he => ⟨he.1, h.step he.2⟩)
      generalize b.take n = E at *
      clear hb3 ho3 hs3 hg4
      go_upto_region 7 with fail
      have hTd := HT.out.drew
      go_region_held3 (fun w' => (convert 22 9 v3).run Try.prog w' = .ok (.string (str8 E)) w' ∧ (convert 22 9 (.slice A n c)).run Try.prog w' = .ok (.string (str8 E)) w') (exact TwoB.cells (by assumption))
        (first
          | (go_at_call 22; refine (CH.out _ (by assumption)).mono ?_; rintro e wx ⟨rfl, hx⟩))
      all_goals
        go_wp2_with fail
        go_ret
        exact ⟨rfl, hx.bel⟩

set_option maxRecDepth 100000 in
set_option maxHeartbeats 1000000 in
theorem fagain_walk_lifted (os : Os) (started : os.Started) (H : Type) (enc : TypeId × Value → H) :
    ReturnsInHanded {} Try.checked os 8 .any (Rows.frameAgainSpec.pre6 enc Try.prog Try.f8 Rows.frameAgainRow.domain false) (Rows.frameAgainSpec.post enc Try.prog Try.f8 false true false false) := by
  refine returnsInHanded_of_change_sized (C := Try.checked) own started (by kernel_rfl) Try.func8
    (ChangeSpec.witness6 (enc := enc) (C := Try.checked) false ⟨#[], #[.slice none 0 0], []⟩ 8 (by kernel_rfl) (by kernel_rfl) (by kernel_rfl) (by kernel_rfl)) ?_
  intro W base args ds gs before hval0 hW hcnd hsz0 _
  have hval : ∀ (j : Nat) t v, Try.f8.params[j]? = some t → args[j]? = some v → Value.okWide Try.prog W .any base t v := hval0
  have hsz : (DataW.weightsEach Try.prog (Try.f8.params.toList ++ Rows.frameAgainSpec.plain.varTypes Try.prog) (ds ++ gs)).all (· ≤ reachBytes) = true := hsz0
  have hW' := hW
  obtain ⟨p, q, hA0, hV, rfl, hfz, hnd⟩ := hW
  have hA : DataW.TrodAll enc Try.prog W 0 (fun _ => true) true Try.f8.params.toList args.toList ds p := hA0
  rw [Try.params8] at hA hval hsz
  obtain ⟨v0, vs0, d0, ds0, p0, q0, hargs, rfl, rfl, h0, r0⟩ := trodAll_cons hA
  obtain ⟨rfl, rfl, rfl⟩ := trodAll_nil r0
  obtain rfl : args = #[v0] := by cases args; simp_all
  obtain ⟨rfl, rfl⟩ := trodVars_none hV
  have k0 := h0
  have lt0 : ∀ x ∈ p0, x.block < W.heap.size := by obtain ⟨m, hm⟩ := k0; exact DataW.trod_lt m _ _ _ hm
  obtain ⟨A0, c0, b0, L0, rfl, sh0, l0⟩ := open_bytes Try.underlying22 Try.underlying5 (by kernel_rfl) bytes5 (hval 0 22 v0 rfl rfl) h0 hsz 0 rfl rfl
  clear hA0 hval0
  refine (fagain_walk A0 c0 b0 L0 W sh0 (by omega)).mono fun e W' ⟨he, bel⟩ => ?_
  subst he
  exact ⟨_, rfl, _, _, _, [], _, [], hW', trodAll_mk1 (shut_bool Try.underlying4 _), (trodAll_cons_mk (Below.trod laidOut (by kernel_rfl) (of_decide_eq_true (by kernel_rfl)) k0 bel lt0) trodAll_mk0), rfl, bel.frame _, fun h => by cases h⟩

theorem frameAgain_holds : Rows.FrameAgainSaid :=
  OpenClaim.holds_of_wide 8 Try.f8 rfl rfl rfl rfl rfl rfl rfl ⟨rfl, rfl, rfl, rfl, rfl⟩ rfl rfl rfl rfl rfl (by kernel_rfl) Try.func8 (by kernel_rfl)
    (of_decide_eq_true (by kernel_rfl)) (by unfold Func.isWrapper; first | (rw [if_pos (by decide +kernel)]; kernel_rfl) | (rw [if_neg (by decide +kernel)]; exact ⟨rfl, rfl⟩))
    (fun os started H enc _ => fagain_walk_lifted os started H enc)
#print axioms frameAgain_holds
end Go.Proofs.Ytlcggpobelbfcaa
