/-
  CrcSeals: for every input the law returns true, and its argument reads as before; the table is tied to the program's text.
  Conditions: the package-level table reads as the program's own text lays it (the card ties it).
-/
import Derived.Test.YtelmbboapbmggaaDoorR
import Derived.Test.YtelmbboapbmggaaDoorCards
import Derived.Test.YtelmbboapbmggaaDoorTie
namespace Go.Proofs.YtelmbboapbmggaaDoor
open Go.ChangeShapes Go.WideShapes Go.ChangeAt Go.RowKit
set_option linter.unusedVariables false
set_option linter.unusedSimpArgs false

set_option maxRecDepth 100000 in
set_option maxHeartbeats 1000000 in
theorem seals_walk (A : Option Addr) (c d : Nat) (l : List UInt8) (w : World) (h : Tab w) (hl : Shows w d (.slice A l.length c) l) (hb : l.length ≤ 140737488355324) :
    Calls Tryd.prog 4 #[.slice A l.length c] w fun e w' => e = .returned (.bool true) ∧ Below w.heap.size w w' := by
  go_enter Tryd.func4, Tryd.ntmps4
  go_wp2_with (at_builtin
               refine wpList_append8 _ rfl (.const (.slice none 0 0)) (.tmp 6) 23 rfl w.heap.size 5 Tryd.underlying23 info5 (.slice none 0 0) [] rfl (Own.nil_ _ _ _) d _ l rfl hl (by simp; omega) (Nat.le_refl _) ?_
               intro v1 w1 ho1 hg1
               rw [List.nil_append] at ho1
               have hb1 : Below w.heap.size w w1 := (Below.refl _ _).grown hg1 (Nat.le_refl _) (by simp [Value.ownBlock]))
  have h1 := h.below hb1 h.1
  obtain ⟨b1, hl1, hl2, hs1⟩ := ho1.shows' hb1.size
  have hd1 : 0 < l.length → b1 < w1.heap.size := fun hp => hs1.lt hp
  have hl' : Shows w1 d (.slice A l.length c) l := hl.keep hb1.size fun hp => hb1.block _ (hl.lt hp)
  have hd' : 0 < l.length → d < w1.heap.size := fun hp => hl'.lt hp
  obtain ⟨A1, c1, rfl, _, _⟩ := ho1.form
  refine (seal_any A1 c1 b1 l _ h1 hs1 hd1 hb).mono ?_
  rintro e w2 ⟨v2, rfl, ho2, hb2⟩
  have hl2' : Shows w2 d (.slice A l.length c) l := hl'.keep hb2.size fun hp => hb2.block _ (hd' hp)
  have hlen := sealD_length l
  generalize hsl : sealD l = sl at *
  obtain ⟨A2, c2, rfl, _, _⟩ := ho2.form
  obtain ⟨b2, rfl, hbb, hbl, _, _⟩ := ho2.at_ (by omega)
  obtain ⟨g2, _, hs2⟩ := ho2.shows
  rw [hlen] at hs2 ho2
  have HSEAL := Lib.hid (fun q => qseal_any A c l.length d l (w2.drewN q) rfl (hl2'.drewN q) hb)
  rw [hsl] at HSEAL
  go_wp2_with fail
  have cvA := conv_at hs2.drew
  go_region_with
    (first
      | (go_at_call 16
         refine (HSEAL.out _).mono ?_
         rintro e w3 ⟨v3, rfl, ho3, hb3⟩
         have hbw : Below w2.heap.size w2 w3 := (blw_drewN (Below.refl _ _) 1).trans hb3
         have hs3 : Shows w3 g2 (.slice (some ⟨b2, 0, none⟩) (l.length + 4) c2) sl := hs2.keep hbw.size fun hp => hbw.block _ (hs2.lt hp)
         obtain ⟨g3, _, hs4⟩ := ho3.shows
         have hcv3 := conv_at hs4
         have hcv4 := conv_at hs3))
  all_goals
    have ho3' : Own 5 w3 w1.heap.size (.slice (some ⟨b2, 0, none⟩) (l.length + 4) c2) sl := ho2.keep fun g hg => hbw.block g (by cases hg; exact hbl)
    have hb23 : Below w1.heap.size w1 w3 := hb2.trans (hbw.mono hb2.size)
    have hsl2 : ((str8 sl).toList == (str8 sl).toList) = true := by simp
    clear hcv3 hcv4 cvA ho3 hs4 hs3 HSEAL
    go_wp2_with fail
    go_loopw [5] (fun i wr => ∃ (k : Nat) (m : List UInt8), k ≤ l.length + 4 ∧ i = .int .i64 k ∧ m.length = l.length + 4 ∧ Own 5 wr w1.heap.size (.slice (some ⟨b2, 0, none⟩) (l.length + 4) c2) m ∧ Below w1.heap.size w1 wr) (fun i _ => l.length + 4 - (intOf i).toNat)
    case atStart => exact ⟨0, sl, by omega, rfl, hlen, ho3', hb23⟩
    case round =>
      obtain ⟨k, m, hk, rfl, hm, ho, hbw⟩ := hrel
      by_cases hk4 : k < l.length + 4
      · obtain ⟨b, e, _, hbl, hfr, hcl⟩ := ho.at_ (by omega)
        cases e
        have hkm : k < m.length := by omega
        have hc : wr.cell? ⟨b2, k, none⟩ = some (.int .u8 (m[k]).toNat) := hcl k (by omega)
        have hf := hfr k
        have hset := fun (u : Value) (hu : u = u8c (m[k] + 1)) => ho.set_ hm k (m[k] + 1) u hu
        have hz : (m[k] + 1 : UInt8).toNat = ((m[k]).toNat + 1) % 256 := by simp
        generalize (m[k]) + 1 = z1 at *
        generalize (m[k]).toNat = z at *
        clear hcl hfr
        have HS := Lib.hid hset
        have HZ := Lib.hid hz
        clear hset hz
        go_wp2_with fail
        go_roundw
        case rel => exact ⟨k + 1, m.set k z1, by omega, by go_num, by simpa using hm, HS.out _ (by simp [u8c, HZ.out]), below_set hbw hbb _⟩
        case measure => simp [intOf]; omega
      · have hl3 : Shows wr d (.slice A l.length c) l := hl'.keep hbw.size fun hp => hbw.block _ (hd' hp)
        have hs3 : Shows wr b1 (.slice A1 l.length c1) l := hs1.keep hbw.size fun hp => hbw.block _ (hd1 hp)
        have cv1 := conv_at hs3
        have cv2 := conv_at hl3
        have hT : Tab wr := h1.below hbw h1.1
        have hbw' : Below w.heap.size w wr := hb1.trans (hbw.mono hb1.size)
        go_wp2_with (go_at_call 14; refine (head_any _ hT).mono ?_; rintro e w4 ⟨rfl, hb4⟩)
        go_ret
        exact ⟨rfl, hbw'.trans (hb4.mono hbw'.size)⟩

set_option maxRecDepth 100000 in
theorem seals_lifted (os : Os) (started : os.Started) (H : Type) (enc : TypeId × Value → H) :
    ReturnsInHanded {} Tryd.checked os 4 .any (fun w args => (Rows.crcSealsSpec.pre enc Tryd.prog Tryd.f4 [] false w args ∧ laidMetH Tryd.prog laid1 w) ∧ sizedMet enc Tryd.prog Tryd.f4 (OpenSpec.ofChange Rows.crcSealsSpec) false w args)
      (Rows.crcSealsSpec.post enc Tryd.prog Tryd.f4 false true false false) := by
  refine returnsInHanded_of_change_and (C := Tryd.checked) (X := fun w _ => laidMetH Tryd.prog laid1 w) (fun _ _ _ hh h => h.of_heap hh) own started (by kernel_rfl) Tryd.func4
    (ChangeSpec.witness_shaped (enc := enc) (C := Tryd.checked) (os := os) (X := fun w _ => laidMetH Tryd.prog laid1 w) false (World.doorLaid Tryd.prog 14 os) #[.slice none 0 0] 8 rfl (World.shaped_of_RefB (by kernel_rfl) (by kernel_rfl)) (by kernel_rfl) (by kernel_rfl) (by kernel_rfl) (door_met os _)) ?_
  intro W base args ds gs before hval0 hW _ hsz0 hL _
  have hval : ∀ (j : Nat) t v, Tryd.f4.params[j]? = some t → args[j]? = some v → Value.okWide Tryd.prog W .any base t v := hval0
  have hsz : (DataW.weightsEach Tryd.prog (Tryd.f4.params.toList ++ Rows.crcSealsSpec.plain.varTypes Tryd.prog) (ds ++ gs)).all (· ≤ reachBytes) = true := hsz0
  have hW' := hW
  obtain ⟨p, q, hA0, hV, rfl, hfz, hnd⟩ := hW
  have hA : DataW.TrodAll enc Tryd.prog W 0 (fun _ => true) true Tryd.f4.params.toList args.toList ds p := hA0
  rw [Tryd.params4] at hA hval hsz
  obtain ⟨v0, vs0, d0, ds0, p0, q0, hargs, rfl, rfl, h0, r0⟩ := trodAll_cons hA
  obtain ⟨rfl, rfl, rfl⟩ := trodAll_nil r0
  obtain rfl : args = #[v0] := by cases args; simp_all
  obtain ⟨rfl, rfl⟩ := trodVars_none hV
  have k0 := h0
  have lt0 : ∀ x ∈ p0, x.block < W.heap.size := by obtain ⟨m, hm⟩ := k0; exact DataW.trod_lt m _ _ _ hm
  obtain ⟨A0, c0, b0, L0, rfl, sh0, l0⟩ := open_bytes Tryd.underlying23 Tryd.underlying5 (by kernel_rfl) bytes5 (hval 0 23 v0 rfl rfl) h0 hsz 0 rfl rfl
  clear hA0 hval0
  refine (seals_walk A0 c0 b0 L0 W (tab_of_laid hL) sh0 (by omega)).mono fun e W' ⟨he, bel⟩ => ?_
  subst he
  exact ⟨_, rfl, _, _, _, [], _, [], hW', trodAll_mk1 (shut_bool Tryd.underlying4 _), (trodAll_cons_mk (Below.trod laidOut (by kernel_rfl) (of_decide_eq_true (by kernel_rfl)) k0 bel lt0) trodAll_mk0), rfl, bel.frame _, fun h => by cases h⟩

theorem seals_over : Rows.CrcSealsSaid :=
  OpenClaim.holds_of_wide 4 Tryd.f4 rfl rfl rfl rfl rfl rfl rfl ⟨rfl, rfl, rfl, rfl, rfl⟩ rfl rfl rfl rfl rfl (by kernel_rfl) Tryd.func4 (by kernel_rfl)
    (of_decide_eq_true (by kernel_rfl)) (by unfold Func.isWrapper; first | (rw [if_pos (by decide +kernel)]; kernel_rfl) | (rw [if_neg (by decide +kernel)]; exact ⟨rfl, rfl⟩))
    (fun os started H enc _ => seals_lifted os started H enc)

theorem crcSeals_holds : Rows.CrcSealsCardSaid :=
  Claim7.holds_tied_plain_at .later [] [.data] true (true, "0f65ae8225e0c38ae43da0f6f4820c298e4b4f6c39bdfae3028bd6766e63b85b") false
    seals_over (fun _ h => by cases h) (by kernel_rfl) (fun _ h => by cases h) crcSeals_row_tie rfl ⟨rfl, rfl⟩ (by kernel_rfl) rfl
    (fun f fn hf hfn => by
      obtain rfl : f = 4 := Option.some.inj ((show Tryd.prog.funcNamed "posthouse/posthouselaw02.CrcSeals" = some 4 by kernel_rfl).symm.trans hf) |>.symm
      obtain rfl : fn = Tryd.f4 := (Option.some.inj (Tryd.func4.symm.trans hfn)).symm
      exact ⟨by kernel_rfl, fun j t ht => by
        rw [Tryd.params4] at ht
        have hm : t ∈ [23] := by simpa using Array.mem_of_getElem? ht
        have hall : ([23].all fun u => !Tryd.prog.wantsStandIn u) = true := by kernel_rfl
        exact (show Tryd.prog.wantsStandIn t = false by simpa using List.all_eq_true.1 hall t hm)⟩)
    (by kernel_rfl)
#print axioms crcSeals_holds
end Go.Proofs.YtelmbboapbmggaaDoor
