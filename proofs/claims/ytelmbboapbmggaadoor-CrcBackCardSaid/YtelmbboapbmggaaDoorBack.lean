/-
  CrcBack: for every input the law returns true, and its argument reads as before; the table is tied to the program's text.
  Conditions: the package-level table reads as the program's own text lays it (the card ties it).
-/
import Derived.Test.YtelmbboapbmggaaDoorR
import Derived.Test.YtelmbboapbmggaaDoorCards
import Derived.Test.YtelmbboapbmggaaDoorTie
namespace Go.Proofs.YtelmbboapbmggaaDoor
open Go.ChangeShapes Go.WideShapes Go.ChangeAt Go.RowKit
set_option linter.unusedVariables false
set_option linter.unusedSimpArgs false

set_option maxRecDepth 100000 in
set_option maxHeartbeats 1000000 in
theorem back_walk (A : Option Addr) (c d : Nat) (l : List UInt8) (w : World) (h : Tab w) (hl : Shows w d (.slice A l.length c) l) (hb : l.length ≤ 140737488355324) :
    Calls Tryd.prog 6 #[.slice A l.length c] w fun e w' => e = .returned (.bool true) ∧ Below w.heap.size w w' := by
  have hlc := hl.lens
  have hd : 0 < l.length → d < w.heap.size := fun hp => hl.lt hp
  go_enter Tryd.func6, Tryd.ntmps6
  go_wp2_with fail
  refine (seal_any A c d l _ h hl hd hb).mono ?_
  rintro e w1 ⟨v1, rfl, ho1, hb1⟩
  have h1 := h.below hb1 h.1
  have hlen := sealD_length l
  have hok := sealD_okD l
  have hop := openD_sealD l
  have htk : (sealD l).take l.length = l := by rw [sealD, List.take_left]
  generalize sealD l = sl at *
  obtain ⟨A1, c1, rfl, _, hcm⟩ := ho1.form
  obtain ⟨g1, _, hs1⟩ := ho1.shows
  have hnc : l.length + 4 ≤ c1 := by omega
  rw [hlen] at hs1 ho1
  have hopen := Lib.hid (open_own A1 c1 (l.length + 4) g1 sl _ h1 hs1 (by omega))
  rw [hok, hop] at hopen
  clear hok hop
  go_wp2_with fail
  refine hopen.out.mono ?_
  rintro e w2 ⟨v2, rfl, hb2, ho2⟩
  obtain ⟨g2, _, hs2⟩ := ho2.shows
  have hb12 : Below w.heap.size w w2 := hb1.trans (hb2.mono hb1.size)
  have hs1' : Shows w2 g1 (.slice A1 (l.length + 4) c1) sl := hs1.keep hb2.size fun hp => hb2.block _ (hs1.lt hp)
  have hs1'' := hs1'.head (k := l.length) (by omega)
  rw [htk] at hs1''
  have hl2 : Shows w2 d (.slice A l.length c) l := hl.keep hb12.size fun hp => hb12.block _ (hd hp)
  have h2 := h.below hb12 h.1
  have hst : ((str8 l).toList == (str8 l).toList) = true := by simp
  have hle : (l.length : Int) ≤ (c1 : Int) := by omega
  have hwrap : IntKind.i64.wrap ((l.length : Int) + 4) = (l.length : Int) + 4 := by
    simp only [IntKind.wrap, IntKind.bits, IntKind.signed]
    simp
    omega
  clear htk hopen
  go_wp2_with fail
  go_region_held3 (fun w' => (convert 23 9 v2).run Tryd.prog w' = .ok (.string (str8 l)) w' ∧ (convert 23 9 (.slice A l.length c)).run Tryd.prog w' = .ok (.string (str8 l)) w' ∧ (convert 23 9 (.slice A1 l.length c1)).run Tryd.prog w' = .ok (.string (str8 l)) w')
    (first | exact ⟨conv_at hs2, conv_at hl2, conv_at hs1''⟩ | exact ⟨conv_at t2, conv_at tl, conv_at t1⟩)
    (first
      | (go_at_call 14
         refine (head_any _ (h2.drewN 1)).mono ?_
         rintro e w3 ⟨rfl, hb3⟩
         have hbw : Below w2.heap.size w2 w3 := (blw_drewN (Below.refl _ _) 1).trans hb3
         have t2 := hs2.keep hbw.size fun hp => hbw.block _ (hs2.lt hp)
         have tl := hl2.keep hbw.size fun hp => hbw.block _ (hl2.lt hp)
         have t1 := hs1''.keep hbw.size fun hp => hbw.block _ (hs1''.lt hp)))
  all_goals
    go_wp2_with fail
    go_ret
    exact ⟨rfl, hb12.trans (hbw.mono hb12.size)⟩

set_option maxRecDepth 100000 in
theorem back_lifted (os : Os) (started : os.Started) (H : Type) (enc : TypeId × Value → H) :
    ReturnsInHanded {} Tryd.checked os 6 .any (fun w args => (Rows.crcBackSpec.pre enc Tryd.prog Tryd.f6 [] false w args ∧ laidMetH Tryd.prog laid1 w) ∧ sizedMet enc Tryd.prog Tryd.f6 (OpenSpec.ofChange Rows.crcBackSpec) false w args)
      (Rows.crcBackSpec.post enc Tryd.prog Tryd.f6 false true false false) := by
  refine returnsInHanded_of_change_and (C := Tryd.checked) (X := fun w _ => laidMetH Tryd.prog laid1 w) (fun _ _ _ hh h => h.of_heap hh) own started (by kernel_rfl) Tryd.func6
    (ChangeSpec.witness_shaped (enc := enc) (C := Tryd.checked) (os := os) (X := fun w _ => laidMetH Tryd.prog laid1 w) false (World.doorLaid Tryd.prog 14 os) #[.slice none 0 0] 8 rfl (World.shaped_of_RefB (by kernel_rfl) (by kernel_rfl)) (by kernel_rfl) (by kernel_rfl) (by kernel_rfl) (door_met os _)) ?_
  intro W base args ds gs before hval0 hW _ hsz0 hL _
  have hval : ∀ (j : Nat) t v, Tryd.f6.params[j]? = some t → args[j]? = some v → Value.okWide Tryd.prog W .any base t v := hval0
  have hsz : (DataW.weightsEach Tryd.prog (Tryd.f6.params.toList ++ Rows.crcBackSpec.plain.varTypes Tryd.prog) (ds ++ gs)).all (· ≤ reachBytes) = true := hsz0
  have hW' := hW
  obtain ⟨p, q, hA0, hV, rfl, hfz, hnd⟩ := hW
  have hA : DataW.TrodAll enc Tryd.prog W 0 (fun _ => true) true Tryd.f6.params.toList args.toList ds p := hA0
  rw [Tryd.params6] at hA hval hsz
  obtain ⟨v0, vs0, d0, ds0, p0, q0, hargs, rfl, rfl, h0, r0⟩ := trodAll_cons hA
  obtain ⟨rfl, rfl, rfl⟩ := trodAll_nil r0
  obtain rfl : args = #[v0] := by cases args; simp_all
  obtain ⟨rfl, rfl⟩ := trodVars_none hV
  have k0 := h0
  have lt0 : ∀ x ∈ p0, x.block < W.heap.size := by obtain ⟨m, hm⟩ := k0; exact DataW.trod_lt m _ _ _ hm
  obtain ⟨A0, c0, b0, L0, rfl, sh0, l0⟩ := open_bytes Tryd.underlying23 Tryd.underlying5 (by kernel_rfl) bytes5 (hval 0 23 v0 rfl rfl) h0 hsz 0 rfl rfl
  clear hA0 hval0
  refine (back_walk A0 c0 b0 L0 W (tab_of_laid hL) sh0 (by omega)).mono fun e W' ⟨he, bel⟩ => ?_
  subst he
  exact ⟨_, rfl, _, _, _, [], _, [], hW', trodAll_mk1 (shut_bool Tryd.underlying4 _), (trodAll_cons_mk (Below.trod laidOut (by kernel_rfl) (of_decide_eq_true (by kernel_rfl)) k0 bel lt0) trodAll_mk0), rfl, bel.frame _, fun h => by cases h⟩

theorem back_over : Rows.CrcBackSaid :=
  OpenClaim.holds_of_wide 6 Tryd.f6 rfl rfl rfl rfl rfl rfl rfl ⟨rfl, rfl, rfl, rfl, rfl⟩ rfl rfl rfl rfl rfl (by kernel_rfl) Tryd.func6 (by kernel_rfl)
    (of_decide_eq_true (by kernel_rfl)) (by unfold Func.isWrapper; first | (rw [if_pos (by decide +kernel)]; kernel_rfl) | (rw [if_neg (by decide +kernel)]; exact ⟨rfl, rfl⟩))
    (fun os started H enc _ => back_lifted os started H enc)

theorem crcBack_holds : Rows.CrcBackCardSaid :=
  Claim7.holds_tied_plain_at .later [] [.data] true (true, "0f65ae8225e0c38ae43da0f6f4820c298e4b4f6c39bdfae3028bd6766e63b85b") false
    back_over (fun _ h => by cases h) (by kernel_rfl) (fun _ h => by cases h) crcBack_row_tie rfl ⟨rfl, rfl⟩ (by kernel_rfl) rfl
    (fun f fn hf hfn => by
      obtain rfl : f = 6 := Option.some.inj ((show Tryd.prog.funcNamed "posthouse/posthouselaw02.CrcBack" = some 6 by kernel_rfl).symm.trans hf) |>.symm
      obtain rfl : fn = Tryd.f6 := (Option.some.inj (Tryd.func6.symm.trans hfn)).symm
      exact ⟨by kernel_rfl, fun j t ht => by
        rw [Tryd.params6] at ht
        have hm : t ∈ [23] := by simpa using Array.mem_of_getElem? ht
        have hall : ([23].all fun u => !Tryd.prog.wantsStandIn u) = true := by kernel_rfl
        exact (show Tryd.prog.wantsStandIn t = false by simpa using List.all_eq_true.1 hall t hm)⟩)
    (by kernel_rfl)
#print axioms crcBack_holds
end Go.Proofs.YtelmbboapbmggaaDoor
