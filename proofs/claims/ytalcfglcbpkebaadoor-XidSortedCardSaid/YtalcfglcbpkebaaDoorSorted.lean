/-
  XidSorted: for every input the law returns true, and its argument reads as before; the table of powers of ten is tied to the library's text.
  Conditions: the listed package-level tables read as the library's own text lays them (the card ties them).
-/
import Derived.Test.YtalcfglcbpkebaaDoorSoR
import Derived.Test.YtalcfglcbpkebaaDoorCards
import Derived.Test.YtalcfglcbpkebaaDoorTie
namespace Go.Proofs.YtalcfglcbpkebaaDoor
open Go.ChangeShapes Go.WideShapes Go.ChangeAt Go.RowKit
set_option linter.unusedVariables false
set_option linter.unusedSimpArgs false

set_option maxRecDepth 100000 in
set_option maxHeartbeats 8000000 in
theorem sorted_walk (A : Option Addr) (c d : Nat) (l : List XV) (w : World) (hT : Tab w) (hl : ShowsG xidC w d (.slice A l.length c) l) (hu : ∀ x ∈ l, xOK x) :
    Calls Tryd.prog 7 #[.slice A l.length c] w fun e w' => e = .returned (.bool true) ∧ Below w.heap.size w w' := by
  have HT := Lib.hid hT
  have C6 := Lib.hid head_any
  by_cases hn : 60 < l.length
  · have hn' : (60 : Int) < (l.length : Int) := by omega
    clear hT hu
    go_enter Tryd.func7, Tryd.ntmps7
    go_wp2_with fail
    refine (C6.out _ HT.out).mono ?_
    rintro e w1 ⟨rfl, hb1⟩
    go_wp2_with fail
    go_ret
    exact ⟨rfl, hb1⟩
  · have hn' : ¬ (60 : Int) < (l.length : Int) := by omega
    have hln := sort_length cmpV_is okV l
    have QS := Lib.hid (fun w' (h : ShowsG xidC w' d (.slice A l.length c) l) => qsorted_any A c l.length d l w' rfl h hu (by omega))
    have SS := Lib.hid (fun A2 c2 d2 w' (h : ShowsG xidC w' d2 (.slice A2 l.length c2) l) => sorted_any A2 c2 l.length d2 l w' rfl h hu (by omega))
    generalize sortD cmpV okV l = r at *
    clear hT hu
    go_enter Tryd.func7, Tryd.ntmps7
    go_wp2_with (at_builtin
                 refine wpList_appendG xidC _ rfl (.const (.slice none 0 0)) (.tmp 10) 51 rfl w.heap.size 24 (.agg #[.int .u32 0, .string ⟨#[]⟩, .string ⟨#[]⟩]) 40 Tryd.underlying51 infoXid rfl (.slice none 0 0) [] rfl (OwnG.nil_ _ _ _ _) d _ l rfl hl (by simp; omega) (by simp; omega) (Nat.le_refl _) ?_
                 intro v1 w1 ho1 hg1
                 rw [List.nil_append] at ho1
                 have hb1 : Below w.heap.size w w1 := (Below.refl _ _).grown hg1 (Nat.le_refl _) (by simp [Value.ownBlock]))
    obtain ⟨A1, c1, rfl, _, _⟩ := ho1.form
    obtain ⟨d1, _, s1⟩ := ho1.shows
    refine (SS.out _ _ _ _ s1).mono ?_
    rintro e w2 ⟨v2, rfl, ho2, hb2⟩
    have hbw2 := hb1.trans (hb2.mono hb1.size)
    go_wp2_with fail
    refine (QS.out _ (hl.below' hbw2 (Nat.le_refl _))).mono ?_
    rintro e w3 ⟨v3, rfl, ho3, hb3⟩
    have hb13 := hb2.trans (hb3.mono hb2.size)
    have ho2' := ho2.below hb3 (Nat.le_refl _)
    obtain ⟨A2, c2, rfl, hc2, _⟩ := ho2'.form
    obtain ⟨A3, c3, rfl, _, _⟩ := ho3.form
    obtain ⟨d2, _, s2⟩ := ho2'.shows
    obtain ⟨d3, _, s3⟩ := ho3.shows
    have hq := qsame_any A2 A3 c2 c3 r.length r.length d2 d3 r r w3 rfl rfl s2 s3 (by omega) (by omega)
    rw [show decide (r = r) = true by simp] at hq
    have HQ := Lib.hid hq
    clear hq s2 s3 ho3
    go_wp2_with fail
    refine (HQ.out).mono ?_
    rintro e w4 ⟨rfl, q4, rfl⟩
    go_wp2_with fail
    go_loopw [5] (fun i wr => ∃ (k : Nat) (L : List XV), k ≤ r.length ∧ i = .int .i64 k ∧ L.length = r.length ∧ OwnG xidC 24 wr w1.heap.size (.slice A2 r.length c2) L ∧ Below w1.heap.size w1 wr) (fun i _ => r.length - (intOf i).toNat)
    case atStart => exact ⟨0, r, by omega, rfl, rfl, ho2', below_drewN hb13 q4⟩
    case round =>
      obtain ⟨k, L, hk, rfl, hL, hoL, hbL⟩ := hrel
      rename World => wi
      by_cases hlt : k < r.length
      · have hkr : (k : Int) < (r.length : Int) := by omega
        obtain ⟨b, rfl, hbb, hbl⟩ := own_cells hoL (by omega)
        obtain ⟨e0, e1, e2⟩ := own_cell hoL (k := k) (by omega)
        have f0 := own_froz hoL (by omega) (k * 3)
        have HS := Lib.hid (hoL.set_ k 0 (by omega) (by decide) (9, L[k].2.1, L[k].2.2) (.int .u32 9) (by simp [xidC]))
        go_wp2_with fail
        go_roundw
        case rel => exact ⟨k + 1, _, by omega, by go_num, by simpa using hL, HS.out, below_set hbL hbb _⟩
        case measure => simp [intOf]; omega
      · have hkr : ¬ (k : Int) < (r.length : Int) := by omega
        have hlw := hl.below' (hb1.trans (hbL.mono hb1.size)) (Nat.le_refl _)
        have ho1' := ho1.below hbL (Nat.le_refl _)
        obtain ⟨d5, _, s5⟩ := ho1'.shows
        have hq := qsame_any A1 A c1 c l.length l.length d5 d l l wi rfl rfl s5 hlw (by omega) (by omega)
        rw [show decide (l = l) = true by simp] at hq
        have HQ := Lib.hid hq
        have hbw := hb1.trans (hbL.mono hb1.size)
        clear hq s5 ho1' hlw
        go_wp2_with fail
        refine (HQ.out).mono ?_
        rintro e w5 ⟨rfl, q5, rfl⟩
        have hbw5 := below_drewN hbw q5
        go_wp2_with fail
        refine (C6.out _ (HT.out.below hbw5)).mono ?_
        rintro e w6 ⟨rfl, hb6⟩
        go_wp2_with fail
        go_ret
        exact ⟨rfl, hbw5.trans (hb6.mono hbw5.size)⟩

set_option maxRecDepth 100000 in
theorem sorted_walk_lifted (os : Os) (started : os.Started) (H : Type) (enc : TypeId × Value → H) :
    ReturnsInHanded {} Tryd.checked os 7 .any (fun w args => (Rows.xidSortedSpec.pre enc Tryd.prog Tryd.f7 [] false w args ∧ laidMetH Tryd.prog laid1 w) ∧ sizedMet enc Tryd.prog Tryd.f7 (OpenSpec.ofChange Rows.xidSortedSpec) false w args)
      (Rows.xidSortedSpec.post enc Tryd.prog Tryd.f7 false true false false) := by
  refine returnsInHanded_of_change_and (C := Tryd.checked) (X := fun w _ => laidMetH Tryd.prog laid1 w) (fun _ _ _ hh h => h.of_heap hh) own started (by kernel_rfl) Tryd.func7
    (ChangeSpec.witness_shaped (enc := enc) (C := Tryd.checked) (os := os) (X := fun w _ => laidMetH Tryd.prog laid1 w) false (World.doorLaid Tryd.prog 24 os) #[.slice none 0 0] 8 rfl (World.shaped_of_RefB (by kernel_rfl) (by kernel_rfl)) (by kernel_rfl) (by kernel_rfl) (by kernel_rfl) (door_met os _)) ?_
  intro W base args ds gs before hval0 hW _ hsz0 hL _
  have hval : ∀ (j : Nat) t v, Tryd.f7.params[j]? = some t → args[j]? = some v → Value.okWide Tryd.prog W .any base t v := hval0
  have hsz : (DataW.weightsEach Tryd.prog (Tryd.f7.params.toList ++ Rows.xidSortedSpec.plain.varTypes Tryd.prog) (ds ++ gs)).all (· ≤ reachBytes) = true := hsz0
  have hW' := hW
  obtain ⟨p, q, hA0, hV, rfl, hfz, hnd⟩ := hW
  have hA : DataW.TrodAll enc Tryd.prog W 0 (fun _ => true) true Tryd.f7.params.toList args.toList ds p := hA0
  rw [Tryd.params7] at hA hval hsz
  obtain ⟨v0, vs0, d0, ds0, p0, q0, hargs, rfl, rfl, h0, r0⟩ := trodAll_cons hA
  obtain ⟨rfl, rfl, rfl⟩ := trodAll_nil r0
  obtain rfl : args = #[v0] := by cases args; simp_all
  obtain ⟨rfl, rfl⟩ := trodVars_none hV
  have k0 := h0
  have lt0 : ∀ x ∈ p0, x.block < W.heap.size := by obtain ⟨m, hm⟩ := k0; exact DataW.trod_lt m _ _ _ hm
  obtain ⟨A0, c0, b0, L0, rfl, sh0, hu0⟩ := open_xids (hval 0 51 v0 rfl rfl) h0 hsz 0 rfl rfl
  clear hA0 hval0
  refine (sorted_walk A0 c0 b0 L0 W (tab_of_laid hL) sh0 hu0).mono fun e W' ⟨he, bel⟩ => ?_
  subst he
  exact ⟨_, rfl, _, _, _, [], _, [], hW', trodAll_mk1 (shut_bool Tryd.underlying4 _), (trodAll_cons_mk (Below.trod laidOut (by kernel_rfl) (of_decide_eq_true (by kernel_rfl)) k0 bel lt0) trodAll_mk0), rfl, bel.frame _, fun h => by cases h⟩

theorem sorted_walk_over : Rows.XidSortedSaid :=
  OpenClaim.holds_of_wide 7 Tryd.f7 rfl rfl rfl rfl rfl rfl rfl ⟨rfl, rfl, rfl, rfl, rfl⟩ rfl rfl rfl rfl rfl (by kernel_rfl) Tryd.func7 (by kernel_rfl)
    (of_decide_eq_true (by kernel_rfl)) (by unfold Func.isWrapper; first | (rw [if_pos (by decide +kernel)]; kernel_rfl) | (rw [if_neg (by decide +kernel)]; exact ⟨rfl, rfl⟩))
    (fun os started H enc _ => sorted_walk_lifted os started H enc)

theorem xidSorted_holds : Rows.XidSortedCardSaid :=
  Claim7.holds_tied_plain_at .later [] [.data, .data, .data] true (true, "3c76a0715c3448ae86bd8466d891c7650f6444d46089a6511ef71281182a261d") false
    sorted_walk_over (fun _ h => by cases h) (by kernel_rfl) (fun _ h => by cases h) xidSorted_row_tie rfl ⟨rfl, rfl⟩ (by kernel_rfl) rfl
    (fun f fn hf hfn => by
      obtain rfl : f = 7 := Option.some.inj ((show Tryd.prog.funcNamed "posthouse/posthouselaw04.XidSorted" = some 7 by kernel_rfl).symm.trans hf) |>.symm
      obtain rfl : fn = Tryd.f7 := (Option.some.inj (Tryd.func7.symm.trans hfn)).symm
      exact ⟨by kernel_rfl, fun j t ht => by
        rw [Tryd.params7] at ht
        have hm : t ∈ [51] := by simpa using Array.mem_of_getElem? ht
        have hall : ([51].all fun u => !Tryd.prog.wantsStandIn u) = true := by kernel_rfl
        exact (show Tryd.prog.wantsStandIn t = false by simpa using List.all_eq_true.1 hall t hm)⟩)
    (by kernel_rfl)
#print axioms xidSorted_holds
end Go.Proofs.YtalcfglcbpkebaaDoor
