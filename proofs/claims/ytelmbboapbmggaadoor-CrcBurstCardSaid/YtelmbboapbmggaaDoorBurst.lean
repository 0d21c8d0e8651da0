/-
  CrcBurst: for every input the law returns true, and its arguments read as before; the table is tied to the program's text.
  Conditions: the package-level table reads as the program's own text lays it (the card ties it).
-/
import Derived.Test.YtelmbboapbmggaaDoorR
import Derived.Test.YtelmbboapbmggaaDoorCards
import Derived.Test.YtelmbboapbmggaaDoorTie
import Derived.IntWalk
import Derived.Deep.CutBlock
namespace Go.Proofs.YtelmbboapbmggaaDoor
open Go.ChangeShapes Go.WideShapes Go.ChangeAt Go.RowKit
set_option linter.unusedVariables false
set_option linter.unusedSimpArgs false

theorem pow_b (b : Nat) (hb : b < 8) : (2 : Int) ^ b % 256 = ((2 ^ b : Nat) : Int) := by
  have h : b = 0 ∨ b = 1 ∨ b = 2 ∨ b = 3 ∨ b = 4 ∨ b = 5 ∨ b = 6 ∨ b = 7 := by omega
  rcases h with rfl | rfl | rfl | rfl | rfl | rfl | rfl | rfl <;> rfl

theorem i64_id (n : Int) (h1 : -9223372036854775808 ≤ n) (h2 : n ≤ 9223372036854775807) : IntKind.i64.wrap n = n := by
  rw [IntKind.wrap_i64]; omega
theorem w64_id (n : Int) (h1 : -9223372036854775808 ≤ n) (h2 : n ≤ 9223372036854775807) : wrap64 n = n := by
  unfold wrap64; omega

set_option maxRecDepth 100000 in
set_option maxHeartbeats 1000000 in
theorem burst_walk (A : Option Addr) (c at_ v d : Nat) (l : List UInt8) (w : World) (h : Tab w) (ha : at_ < 4294967296) (hv : v < 4294967296) (hl : Shows w d (.slice A l.length c) l) (hb : l.length ≤ 140737488355324) :
    Calls Tryd.prog 7 #[.slice A l.length c, .int .u32 at_, .int .u32 v] w fun e w' => e = .returned (.bool true) ∧ Below w.heap.size w w' := by
  have hd : 0 < l.length → d < w.heap.size := fun hp => hl.lt hp
  have HAND : ∀ k, bits BinOp.and IntKind.u32 ((v : Int) / 2 ^ k) 1 = ((v / 2 ^ k % 2 : Nat) : Int) := fun k => by
    have h1 : (v : Int) / 2 ^ k = ((v / 2 ^ k : Nat) : Int) := by simp
    rw [h1, show (1 : Int) = ((1 : Nat) : Int) from rfl, u32_and_nat _ _ (Nat.lt_of_le_of_lt (Nat.div_le_self _ _) hv) (by omega), nat_mask1]
  go_enter Tryd.func7, Tryd.ntmps7
  go_wp2_with fail
  refine (seal_any A c d l _ h hl hd hb).mono ?_
  rintro e w1 ⟨v1, rfl, ho1, hb1⟩
  have hok := sealD_ok l
  have hlen := sealD_length l
  generalize sealD l = sl at *
  obtain ⟨A1, c1, rfl, _, hcm⟩ := ho1.form
  obtain ⟨b1, rfl, hbb, _, _, _⟩ := ho1.at_ (by omega)
  rw [hlen] at ho1
  rw [hlen]
  have HOK := Lib.hid hok
  have HLEN := Lib.hid hlen
  clear hok hlen
  go_wp2_with fail
  have hfe : ((at_ : Int) % (8 * ((l.length : Int) + 4))) = ((at_ % (8 * (l.length + 4)) : Nat) : Int) := by simp
  rw [hfe]
  clear hfe
  have hfl : at_ % (8 * (l.length + 4)) < 8 * (l.length + 4) := Nat.mod_lt _ (by omega)
  generalize at_ % (8 * (l.length + 4)) = f at *
  go_loopw [9, 10, 11] (fun tu i _ wr => ∃ (k : Nat) (m : List UInt8), k ≤ 32 ∧ i = .int .i64 k ∧ m.length = l.length + 4 ∧ le m = le sl ^^^ ebits v f (8 * (l.length + 4)) k ∧ (∃ tb : Bool, tu = .bool tb ∧ tb = decide (ebits v f (8 * (l.length + 4)) k ≠ 0)) ∧ Own 5 wr w.heap.size (.slice (some ⟨b1, 0, none⟩) (l.length + 4) c1) m ∧ Below w.heap.size w wr) (fun _ i _ _ => 32 - (intOf i).toNat)
  case atStart => exact ⟨0, sl, by omega, rfl, HLEN.out, by rw [ebits_zero, Nat.xor_zero], ⟨false, rfl, by rw [ebits_zero]; rfl⟩, ho1, hb1⟩
  case round =>
    obtain ⟨k, m, hk, rfl, hm, hle, ⟨tb, rfl, htb⟩, ho, hbw⟩ := hrel
    have HLE := Lib.hid hle
    have HTB := Lib.hid htb
    have HM := Lib.hid hm
    clear hle htb hm
    by_cases hk32 : k < 32
    · have wf1 : IntKind.i64.wrap (f : Int) = (f : Int) := i64_id _ (by omega) (by omega)
      have wf2 : IntKind.i64.wrap ((f : Int) + (k : Int)) = (f : Int) + (k : Int) := i64_id _ (by omega) (by omega)
      have hk32' : (k : Int) < 32 := by omega
      have hand : bits BinOp.and IntKind.u32 ((v : Int) / 2 ^ k) 1 = ((v / 2 ^ k % 2 : Nat) : Int) := HAND k
      have wf3 : wrap64 (8 * ((l.length : Int) + 4)) = 8 * ((l.length : Int) + 4) := w64_id _ (by omega) (by omega)
      have HFL := Lib.hid hfl
      have HB := Lib.hid hb
      clear ha hv hb hfl HAND
      go_upto_region 10 with fail
      by_cases hbit : v.testBit k = true
      · have hb1 : v / 2 ^ k % 2 = 1 := by
          rw [Nat.testBit_eq_decide_div_mod_eq] at hbit
          simpa using hbit
        rw [hb1] at hand
        clear hb1
        by_cases hin : f + k < 8 * (l.length + 4)
        · have hlt : decide ((f : Int) + (k : Int) < 8 * ((l.length : Int) + 4)) = true := by simp; omega
          obtain ⟨bb, e, hbb', hbl, hfr, hcl⟩ := ho.at_ (by omega)
          cases e
          obtain ⟨j, b, hjb, hb8⟩ : ∃ j b, f + k = 8 * j + b ∧ b < 8 := ⟨(f + k) / 8, (f + k) % 8, by omega, by omega⟩
          have hjm : j < m.length := by rw [HM.out]; omega
          have hj4 : (j : Int) < (l.length : Int) + 4 := by omega
          have hc : wr.cell? ⟨b1, j, none⟩ = some (.int .u8 (m[j]).toNat) := hcl _ hjm
          have hf := hfr j
          have hft : ((f : Int) + (k : Int)).tdiv 8 = (j : Int) := by rw [Int.tdiv_eq_ediv_of_nonneg (by omega)]; omega
          have hfm : ((f : Int) + (k : Int)).tmod 8 = (b : Int) := by rw [Int.tmod_eq_emod_of_nonneg (by omega)]; omega
          have hjw : wrap64 (j : Int) = (j : Int) := w64_id _ (by omega) (by have := HFL.out; have := HB.out; omega)
          generalize hzz : (m[j]).toNat = zz at hc
          have HZZ := Lib.hid hzz
          have HJB := Lib.hid hjb
          clear hcl hfr hjb hzz
          go_wp2_with fail
          go_roundw
          case rel =>
            have hz8 : zz < 256 := by rw [← HZZ.out]; exact (m[j]).toNat_lt
            have hpb : 2 ^ b < 256 := Nat.lt_of_lt_of_le (Nat.pow_lt_pow_right (by omega) hb8) (by decide)
            have hxl : zz ^^^ 2 ^ b < 256 := Nat.xor_lt_two_pow (n := 8) hz8 hpb
            have hval : bits BinOp.xor IntKind.u8 (zz : Int) (2 ^ b % 256) = ((zz ^^^ 2 ^ b : Nat) : Int) := by
              rw [pow_b b hb8, u8_xor_nat _ _ hz8 hpb]
            have hy : (UInt8.ofNat (zz ^^^ 2 ^ b)).toNat = zz ^^^ 2 ^ b := by rw [UInt8.toNat_ofNat']; exact Nat.mod_eq_of_lt hxl
            have hls := le_set m j b (UInt8.ofNat (zz ^^^ 2 ^ b)) hb8 hjm (by rw [hy, HZZ.out])
            have hef := ebits_flip v f (8 * (l.length + 4)) k hbit hin
            have hen := ebits_flip_ne v f (8 * (l.length + 4)) k hbit hin
            refine ⟨k + 1, m.set j (UInt8.ofNat (zz ^^^ 2 ^ b)), by omega, by go_num, by rw [List.length_set]; exact HM.out, ?_, ⟨true, rfl, by simpa using hen⟩, ho.set_ HM.out j _ _ (by rw [hval]; simp only [u8c]; rw [hy]), below_set hbw hbb _⟩
            rw [hls, HLE.out, hef, HJB.out, Nat.xor_assoc]
          case measure => simp [intOf]; omega
        · have hlt : decide ((f : Int) + (k : Int) < 8 * ((l.length : Int) + 4)) = false := by simp; omega
          go_wp2_with fail
          go_roundw
          case rel => exact ⟨k + 1, m, by omega, by go_num, HM.out, by rw [ebits_stay _ _ _ _ (.inr (by omega))]; exact HLE.out, ⟨tb, rfl, by rw [ebits_stay _ _ _ _ (.inr (by omega))]; exact HTB.out⟩, ho, hbw⟩
          case measure => simp [intOf]; omega
      · have hb1 : v / 2 ^ k % 2 = 0 := by
          rw [Nat.testBit_eq_decide_div_mod_eq] at hbit
          simp at hbit
          omega
        rw [hb1] at hand
        clear hb1
        go_wp2_with fail
        go_roundw
        case rel => exact ⟨k + 1, m, by omega, by go_num, HM.out, by rw [ebits_stay _ _ _ _ (.inl (by simpa using hbit))]; exact HLE.out, ⟨tb, rfl, by rw [ebits_stay _ _ _ _ (.inl (by simpa using hbit))]; exact HTB.out⟩, ho, hbw⟩
        case measure => simp [intOf]; omega
    · obtain rfl : k = 32 := by omega
      obtain ⟨g, _, hs⟩ := ho.shows
      have hopen := Lib.hid (open_own (some ⟨b1, 0, none⟩) c1 (l.length + 4) g m wr (h.below hbw h.1) hs (by omega))
      have hiff := burst sl m v f HOK.out (by rw [HM.out, HLEN.out]) (by rw [HLEN.out]; omega) (by rw [HLEN.out]; exact HLE.out)
      rw [HLEN.out] at hiff
      have hd : decide (okSeal m) = !tb := by
        rw [HTB.out]
        simp only [ne_eq, decide_not, Bool.not_not]
        exact decide_eq_decide.2 hiff
      rw [hd] at hopen
      clear ha hv hb hfl HAND hiff hd
      go_wp2_with fail
      refine hopen.out.mono ?_
      rintro e w2 ⟨v2, rfl, hb2, ho2⟩
      have hbw2 : Below w.heap.size w w2 := hbw.trans (hb2.mono hbw.size)
      have heq : ((!tb) == (!tb)) = true := by simp
      go_wp2_with (go_at_call 14; refine (head_any _ (h.below hbw2 h.1)).mono ?_; rintro e w4 ⟨rfl, hb4⟩)
      go_ret
      exact ⟨rfl, hbw2.trans (hb4.mono hbw2.size)⟩

set_option maxRecDepth 100000 in
theorem burst_lifted (os : Os) (started : os.Started) (H : Type) (enc : TypeId × Value → H) :
    ReturnsInHanded {} Tryd.checked os 7 .any (fun w args => (Rows.crcBurstSpec.pre enc Tryd.prog Tryd.f7 [] false w args ∧ laidMetH Tryd.prog laid1 w) ∧ sizedMet enc Tryd.prog Tryd.f7 (OpenSpec.ofChange Rows.crcBurstSpec) false w args)
      (Rows.crcBurstSpec.post enc Tryd.prog Tryd.f7 false true false false) := by
  refine returnsInHanded_of_change_and (C := Tryd.checked) (X := fun w _ => laidMetH Tryd.prog laid1 w) (fun _ _ _ hh h => h.of_heap hh) own started (by kernel_rfl) Tryd.func7
    (ChangeSpec.witness_shaped (enc := enc) (C := Tryd.checked) (os := os) (X := fun w _ => laidMetH Tryd.prog laid1 w) false (World.doorLaid Tryd.prog 14 os) #[.slice none 0 0, .int .u32 0, .int .u32 0] 8 rfl (World.shaped_of_RefB (by kernel_rfl) (by kernel_rfl)) (by kernel_rfl) (by kernel_rfl) (by kernel_rfl) (door_met os _)) ?_
  intro W base args ds gs before hval0 hW _ hsz0 hL _
  have hval : ∀ (j : Nat) t v, Tryd.f7.params[j]? = some t → args[j]? = some v → Value.okWide Tryd.prog W .any base t v := hval0
  have hsz : (DataW.weightsEach Tryd.prog (Tryd.f7.params.toList ++ Rows.crcBurstSpec.plain.varTypes Tryd.prog) (ds ++ gs)).all (· ≤ reachBytes) = true := hsz0
  have hW' := hW
  obtain ⟨p, q, hA0, hV, rfl, hfz, hnd⟩ := hW
  have hA : DataW.TrodAll enc Tryd.prog W 0 (fun _ => true) true Tryd.f7.params.toList args.toList ds p := hA0
  rw [Tryd.params7] at hA hval hsz
  obtain ⟨v0, vs0, d0, ds0, p0, q0, hargs, rfl, rfl, h0, r0⟩ := trodAll_cons hA
  obtain ⟨v1, vs1, d1, ds1, p1, q1, rfl, rfl, rfl, h1, r1⟩ := trodAll_cons r0
  obtain ⟨v2, vs2, d2, ds2, p2, q2, rfl, rfl, rfl, h2, r2⟩ := trodAll_cons r1
  obtain ⟨rfl, rfl, rfl⟩ := trodAll_nil r2
  obtain rfl : args = #[v0, v1, v2] := by cases args; simp_all
  obtain ⟨rfl, rfl⟩ := trodVars_none hV
  have k0 := h0
  have lt0 : ∀ x ∈ p0, x.block < W.heap.size := by obtain ⟨m, hm⟩ := k0; exact DataW.trod_lt m _ _ _ hm
  have k1 := h1
  have lt1 : ∀ x ∈ p1, x.block < W.heap.size := by obtain ⟨m, hm⟩ := k1; exact DataW.trod_lt m _ _ _ hm
  have k2 := h2
  have lt2 : ∀ x ∈ p2, x.block < W.heap.size := by obtain ⟨m, hm⟩ := k2; exact DataW.trod_lt m _ _ _ hm
  obtain ⟨A0, c0, b0, L0, rfl, sh0, l0⟩ := open_bytes Tryd.underlying23 Tryd.underlying5 (by kernel_rfl) bytes5 (hval 0 23 v0 rfl rfl) h0 hsz 0 rfl rfl
  obtain ⟨s1, rfl, rfl, rfl, ws1⟩ := open_int Tryd.underlying22 (hval 1 22 v1 rfl rfl) h1
  obtain ⟨s10, s11⟩ := u32_range ws1
  obtain ⟨S1, rfl⟩ := Int.eq_ofNat_of_zero_le s10
  obtain ⟨s2, rfl, rfl, rfl, ws2⟩ := open_int Tryd.underlying22 (hval 2 22 v2 rfl rfl) h2
  obtain ⟨s20, s21⟩ := u32_range ws2
  obtain ⟨S2, rfl⟩ := Int.eq_ofNat_of_zero_le s20
  clear hA0 hval0
  refine (burst_walk A0 c0 S1 S2 b0 L0 W (tab_of_laid hL) (by omega) (by omega) sh0 (by omega)).mono fun e W' ⟨he, bel⟩ => ?_
  subst he
  exact ⟨_, rfl, _, _, _, [], _, [], hW', trodAll_mk1 (shut_bool Tryd.underlying4 _), (trodAll_cons_mk (Below.trod laidOut (by kernel_rfl) (of_decide_eq_true (by kernel_rfl)) k0 bel lt0) (trodAll_cons_mk (Below.trod laidOut (by kernel_rfl) (of_decide_eq_true (by kernel_rfl)) k1 bel lt1) (trodAll_cons_mk (Below.trod laidOut (by kernel_rfl) (of_decide_eq_true (by kernel_rfl)) k2 bel lt2) trodAll_mk0))), rfl, bel.frame _, fun h => by cases h⟩

theorem burst_over : Rows.CrcBurstSaid :=
  OpenClaim.holds_of_wide 7 Tryd.f7 rfl rfl rfl rfl rfl rfl rfl ⟨rfl, rfl, rfl, rfl, rfl⟩ rfl rfl rfl rfl rfl (by kernel_rfl) Tryd.func7 (by kernel_rfl)
    (of_decide_eq_true (by kernel_rfl)) (by unfold Func.isWrapper; first | (rw [if_pos (by decide +kernel)]; kernel_rfl) | (rw [if_neg (by decide +kernel)]; exact ⟨rfl, rfl⟩))
    (fun os started H enc _ => burst_lifted os started H enc)

theorem crcBurst_holds : Rows.CrcBurstCardSaid :=
  Claim7.holds_tied_plain_at .later [] [.data] true (true, "0f65ae8225e0c38ae43da0f6f4820c298e4b4f6c39bdfae3028bd6766e63b85b") false
    burst_over (fun _ h => by cases h) (by kernel_rfl) (fun _ h => by cases h) crcBurst_row_tie rfl ⟨rfl, rfl⟩ (by kernel_rfl) rfl
    (fun f fn hf hfn => by
      obtain rfl : f = 7 := Option.some.inj ((show Tryd.prog.funcNamed "posthouse/posthouselaw02.CrcBurst" = some 7 by kernel_rfl).symm.trans hf) |>.symm
      obtain rfl : fn = Tryd.f7 := (Option.some.inj (Tryd.func7.symm.trans hfn)).symm
      exact ⟨by kernel_rfl, fun j t ht => by
        rw [Tryd.params7] at ht
        have hm : t ∈ [23, 22, 22] := by simpa using Array.mem_of_getElem? ht
        have hall : ([23, 22, 22].all fun u => !Tryd.prog.wantsStandIn u) = true := by kernel_rfl
        exact (show Tryd.prog.wantsStandIn t = false by simpa using List.all_eq_true.1 hall t hm)⟩)
    (by kernel_rfl)
#print axioms crcBurst_holds
end Go.Proofs.YtelmbboapbmggaaDoor
