/-
  RecordScans: for every text the law returns true, and its argument reads as before; the table is tied to the program's text.
  Conditions: the package-level table reads as the program's own text lays it (the card ties it).
-/
import Derived.Test.YtmpcddljgcckcaaDoorRcR
import Derived.Test.YtmpcddljgcckcaaDoorRcQC
import Derived.Test.YtmpcddljgcckcaaDoorCards
import Derived.Test.YtmpcddljgcckcaaDoorTie
namespace Go.Proofs.YtmpcddljgcckcaaDoor
open Go.ChangeShapes Go.WideShapes Go.ChangeAt Go.RowKit
open Go.ChangeMaps (open_string shut_string)
open Crc (sealD okSeal sealD_length sealD_ok okSeal_iff openD Tab tab)
set_option linter.unusedVariables false
set_option linter.unusedSimpArgs false

theorem qrscan_eq (s : ByteArray) (L : List Rc) (n st : Nat) (w : World) (hs : s.size ≤ 1000000) (h : scanR (sb s) = (L, n, st)) :
    Calls Tryd.prog 14 #[.string s] w fun e w' => ∃ A c, e = .returned (.tuple #[.slice A L.length c, .int .i64 n, .int .i64 st]) ∧ OwnG rcC 33 w' w.heap.size (.slice A L.length c) L ∧ Below w.heap.size w w' := by
  refine (qrscan_any s w hs).mono ?_
  rintro e w' ⟨v, rfl, ho, hb⟩
  rw [h] at ho ⊢
  obtain ⟨A, c, rfl, _, _⟩ := ho.form
  exact ⟨A, c, rfl, ho, hb⟩

set_option maxRecDepth 100000 in
set_option maxHeartbeats 4000000 in
theorem scans_walk (s : ByteArray) (w : World) (hT : Tab w) (hs : s.size ≤ 140737488351232) :
    Calls Tryd.prog 5 #[.string s] w fun e w' => e = .returned (.bool true) ∧ Below w.heap.size w w' := by
  have HT := Lib.hid (fun w' (hb : Below w.heap.size w w') => hT.below hb hT.1)
  by_cases hbig : 5000 < s.size
  · have h1 : (5000 : Int) < (s.size : Int) := by omega
    go_enter Tryd.func5, Tryd.ntmps5
    go_wp2_with fail
    refine (rhead_any w hT).mono ?_
    rintro e w1 ⟨rfl, hb⟩
    go_wp2_with fail
    go_ret
    exact ⟨rfl, hb⟩
  · have h1 : ¬ (5000 : Int) < (s.size : Int) := by omega
    obtain ⟨i1, i2, i3, i4, i5, i6⟩ := scan_sound _ (sb s) rfl
    obtain ⟨L, n, st, hR⟩ : ∃ L n st, scanR (sb s) = (L, n, st) := ⟨_, _, _, rfl⟩
    have HSC := Lib.hid (fun W (hT : Tab W) => rscan_eq s L n st W hT (by omega) hR)
    have HQC := Lib.hid (fun W => qrscan_eq s L n st W (by omega) hR)
    rw [hR] at i2 i5 i6
    simp only [] at i2 i5 i6
    rw [sb_length] at i2
    have hlb : L.length ≤ 17592186044416 := by omega
    have HSA := Lib.hid (fun (A1 A2 : Option Addr) (c1 c2 d1 d2 : Nat) (W : World) (s1 : ShowsG rcC W d1 (.slice A1 L.length c1) L) (s2 : ShowsG rcC W d2 (.slice A2 L.length c2) L) => rsame_self A1 A2 c1 c2 d1 d2 L.length L rfl W s1 s2 hlb)
    have wf : IntKind.i64.wrap (st : Int) = (st : Int) := i64_id _ (by omega) (by omega)
    clear i1 i3 i4 i6 i2 hR hT hbig
    go_enter Tryd.func5, Tryd.ntmps5
    go_wp2_with fail
    with_reducible refine (HSC.out w (HT.out _ (Below.refl _ _))).mono ?_
    rintro e w1 ⟨A, c, rfl, ho, hb1⟩
    go_wp2_with fail
    with_reducible refine (HQC.out w1).mono ?_
    rintro e w2 ⟨A2, c2, rfl, ho2, hb2⟩
    have hw2 : Below w.heap.size w w2 := hb1.trans (hb2.mono hb1.size)
    obtain ⟨g, _, hsh⟩ := (ho.below hb2 (Nat.le_refl _)).shows
    obtain ⟨g2, _, hsh2⟩ := ho2.shows
    have HSA2 := Lib.hid (HSA.out A A2 c c2 g g2 w2 hsh hsh2)
    have HTW := Lib.hid (fun W (hb : Below w2.heap.size w2 W) => HT.out W (hw2.trans (hb.mono hw2.size)))
    have HH := Lib.hid (fun W (hT : Tab W) => rhead_any W hT)
    clear hsh hsh2 ho ho2
    go_wp2_with (first
      | (with_reducible refine HSA2.out.mono ?_; rintro e w3 ⟨rfl, hb3⟩)
      | (with_reducible refine (HH.out w3 (HTW.out w3 hb3)).mono ?_; rintro e w4 ⟨rfl, hb4⟩))
    go_ret
    exact ⟨rfl, (hw2.trans (hb3.mono hw2.size)).trans (hb4.mono (hw2.trans (hb3.mono hw2.size)).size)⟩

set_option maxRecDepth 100000 in
theorem scans_walk_lifted (os : Os) (started : os.Started) (H : Type) (enc : TypeId × Value → H) :
    ReturnsInHanded {} Tryd.checked os 5 .any (fun w args => (Rows.recordScansSpec.pre enc Tryd.prog Tryd.f5 [] false w args ∧ laidMetH Tryd.prog laid1 w) ∧ sizedMet enc Tryd.prog Tryd.f5 (OpenSpec.ofChange Rows.recordScansSpec) false w args)
      (Rows.recordScansSpec.post enc Tryd.prog Tryd.f5 false true false false) := by
  refine returnsInHanded_of_change_and (C := Tryd.checked) (X := fun w _ => laidMetH Tryd.prog laid1 w) (fun _ _ _ hh h => h.of_heap hh) own started (by kernel_rfl) Tryd.func5
    (ChangeSpec.witness_shaped (enc := enc) (C := Tryd.checked) (os := os) (X := fun w _ => laidMetH Tryd.prog laid1 w) false (World.doorLaid Tryd.prog 14 os) #[.string ⟨#[]⟩] 8 rfl (World.shaped_of_RefB (by kernel_rfl) (by kernel_rfl)) (by kernel_rfl) (by kernel_rfl) (by kernel_rfl) (door_met os _)) ?_
  intro W base args ds gs before hval0 hW _ hsz0 hL _
  have hval : ∀ (j : Nat) t v, Tryd.f5.params[j]? = some t → args[j]? = some v → Value.okWide Tryd.prog W .any base t v := hval0
  have hsz : (DataW.weightsEach Tryd.prog (Tryd.f5.params.toList ++ Rows.recordScansSpec.plain.varTypes Tryd.prog) (ds ++ gs)).all (· ≤ reachBytes) = true := hsz0
  have hW' := hW
  obtain ⟨p, q, hA0, hV, rfl, hfz, hnd⟩ := hW
  have hA : DataW.TrodAll enc Tryd.prog W 0 (fun _ => true) true Tryd.f5.params.toList args.toList ds p := hA0
  rw [Tryd.params5] at hA hval hsz
  obtain ⟨v0, vs0, d0, ds0, p0, q0, hargs, rfl, rfl, h0, r0⟩ := trodAll_cons hA
  obtain ⟨rfl, rfl, rfl⟩ := trodAll_nil r0
  obtain rfl : args = #[v0] := by cases args; simp_all
  obtain ⟨rfl, rfl⟩ := trodVars_none hV
  have k0 := h0
  have lt0 : ∀ x ∈ p0, x.block < W.heap.size := by obtain ⟨m, hm⟩ := k0; exact DataW.trod_lt m _ _ _ hm
  obtain ⟨s0, rfl, rfl, rfl, _⟩ := open_string Tryd.underlying9 (hval 0 9 v0 rfl rfl) h0
  have zs0 := sized_string hsz (j := 0) (t := 9) rfl rfl
  have zz0 : s0.size ≤ 140737488351232 := by rw [← sb_length]; exact zs0
  clear hA0 hval0
  refine (scans_walk s0 W (tab_of_laid hL) zz0).mono fun e W' ⟨he, bel⟩ => ?_
  subst he
  exact ⟨_, rfl, _, _, _, [], _, [], hW', trodAll_mk1 (shut_bool Tryd.underlying4 _), (trodAll_cons_mk (Below.trod laidOut (by kernel_rfl) (of_decide_eq_true (by kernel_rfl)) k0 bel lt0) trodAll_mk0), rfl, bel.frame _, fun h => by cases h⟩

theorem scans_walk_over : Rows.RecordScansSaid :=
  OpenClaim.holds_of_wide 5 Tryd.f5 rfl rfl rfl rfl rfl rfl rfl ⟨rfl, rfl, rfl, rfl, rfl⟩ rfl rfl rfl rfl rfl (by kernel_rfl) Tryd.func5 (by kernel_rfl)
    (of_decide_eq_true (by kernel_rfl)) (by unfold Func.isWrapper; first | (rw [if_pos (by decide +kernel)]; kernel_rfl) | (rw [if_neg (by decide +kernel)]; exact ⟨rfl, rfl⟩))
    (fun os started H enc _ => scans_walk_lifted os started H enc)

theorem recordScans_holds : Rows.RecordScansCardSaid :=
  Claim7.holds_tied_plain_at .later [] [.data] true (true, "a9d5fd1340711233ce61910b50a92aefee660ba42ae3caf9da3306c67fcf17ac") false
    scans_walk_over (fun _ h => by cases h) (by kernel_rfl) (fun _ h => by cases h) recordScans_row_tie rfl ⟨rfl, rfl⟩ (by kernel_rfl) rfl
    (fun f fn hf hfn => by
      obtain rfl : f = 5 := Option.some.inj ((show Tryd.prog.funcNamed "posthouse/posthouselaw11.RecordScans" = some 5 by kernel_rfl).symm.trans hf) |>.symm
      obtain rfl : fn = Tryd.f5 := (Option.some.inj (Tryd.func5.symm.trans hfn)).symm
      exact ⟨by kernel_rfl, fun j t ht => by
        rw [Tryd.params5] at ht
        have hm : t ∈ [9] := by simpa using Array.mem_of_getElem? ht
        have hall : ([9].all fun u => !Tryd.prog.wantsStandIn u) = true := by kernel_rfl
        exact (show Tryd.prog.wantsStandIn t = false by simpa using List.all_eq_true.1 hall t hm)⟩)
    (by kernel_rfl)
#print axioms recordScans_holds
end Go.Proofs.YtmpcddljgcckcaaDoor
