/-
  The contract of method.isValid, kind by kind.
  Conditions: none but sizes.
-/
import Derived.Test.YtpbdnfonflmncaaGreatMeEZ
namespace Go.Proofs.YtpbdnfonflmncaaGreat
open Go.RowKit
set_option linter.unusedVariables false
set_option linter.unusedSimpArgs false
set_option maxRecDepth 100000 in
set_option maxHeartbeats 2000000 in
theorem valid_none (k : Nat) (a : ArgP) (A : Option Addr) (c : Nat) (v0 v1 v2 v3 v4 : Value) (w : World) (hk : k ≠ 98) (hi : a.is = false) :
  Calls Tryz.prog 26 #[.int .u8 k, argV a (.slice A a.q.length c) v0 v1 v2 v3 v4] w fun e w' => e = .returned (.bool (validB k a)) ∧ Below w.heap.size w w' := by
 rw [validB_is hk hi]
 have hX := BoxG.new w a (.slice A a.q.length c) v0 v1 v2 v3 v4
 have p0 := hX.cells.1.1
 rw [hi] at p0
 have t0 : ((k : Int) != 98) = true := by simp; omega
 clear hX hk
 unfold argV
 go_enter Tryz.func26, Tryz.ntmps26
 go_wp2_with fail
 go_ret
 exact ⟨rfl, (Below.refl _ _).alloc (Nat.le_refl _) _⟩
set_option maxRecDepth 100000 in
set_option maxHeartbeats 4000000 in
theorem valid_98 (a : ArgP) (A : Option Addr) (c dq : Nat) (v0 v1 v2 v3 v4 : Value) (w : World) (h : ShowsA w a A c dq v0 v1 v2 v3 v4) (hc : cntT a.v ≤ 1000000) :
  Calls Tryz.prog 26 #[.int .u8 (98 : Nat), argV a (.slice A a.q.length c) v0 v1 v2 v3 v4] w fun e w' => e = .returned (.bool (validB 98 a)) ∧ Below w.heap.size w w' := by
 obtain ⟨ai, an, az, af, ag, ah, aq, av⟩ := a
 skip
 have hz2 : az.size ≤ 140737488351232 := h.sz.s
 have hz4 : ag.size ≤ 140737488351232 := h.sz.g
 have hz5 : ah.size ≤ 140737488351232 := h.sz.h
 have hz6 : aq.length ≤ 17592186043904 := h.sz.q
 have hu6 : u32s aq := h.sz.u
 obtain ⟨a, ha⟩ : ∃ a : ArgP, a = ⟨ai, an, az, af, ag, ah, aq, av⟩ := ⟨_, rfl⟩
 have HA := Lib.hid ha
 rw [← ha] at h
 have hX := BoxG.new w ⟨ai, an, az, af, ag, ah, aq, av⟩ (.slice A aq.length c) v0 v1 v2 v3 v4
 have hb0 : Below w.heap.size w (w.alloc (Obj.cells #[.bool ai, .int .u64 an, .string az, .int .u32 af, .string ag, .string ah, .slice A aq.length c, v0, v1, v2, v3, v4] 52)) := below_box w _
 have HS := Lib.hid (fun w' (hb : Below w.heap.size w w') => h.kept hb (Nat.le_refl _))
 have HW := Lib.hid (fun w => (show Calls Tryz.prog 36 #[.int .u8 (98 : Nat)] w fun e w' => e = .returned (.int .i64 0) ∧ w' = w from width_any 98 w))
 have HG := Lib.hid great0
 have hsz := h.sz
 unfold argV
 simp only [] at *
 generalize hW : w.alloc (Obj.cells #[.bool ai, .int .u64 an, .string az, .int .u32 af, .string ag, .string ah, .slice A aq.length c, v0, v1, v2, v3, v4] 52) = W at *
 have HWW := Lib.hid hW
 have hXi := hX.setIs false
 have hbi : Below w.heap.size w (W.setCell ⟨w.heap.size, 0, none⟩ (.bool false)) := hb0.setCell (Nat.le_refl _) _
 have p0 := hX.cells.1.1
 have f0 := hX.fr 0
 have f1 := hX.fr 1
 have f2 := hX.fr 2
 have f3 := hX.fr 3
 have f4 := hX.fr 4
 have f5 := hX.fr 5
 have f6 := hX.fr 6
 have f7 := hX.fr 7
 have f8 := hX.fr 8
 have f9 := hX.fr 9
 have f10 := hX.fr 10
 have f11 := hX.fr 11
 obtain ⟨⟨p1, p2⟩, ⟨p3, p4, p5⟩, p6, p7, p8, p9, p10, p11⟩ := And.intro hX.cells.1.2 hX.cells.2
 have HB := Lib.hid (And.intro hb0 (And.intro hbi hXi))
 clear hX hb0 hbi hW ha h hsz
 have hv := validB_of (k := 98) (a := ⟨ai, an, az, af, ag, ah, aq, av⟩) (fun c => absurd rfl c) (fit_b _) (bare_b _)
 rw [hv]
 have HSA := Lib.hid (fun w' (hb : Below w.heap.size w w') => (show Calls Tryz.prog 56 _ w' _ from
  have h := HS.out w' hb
  have h := HA.out ▸ h
  sameArg_any ⟨false, an, az, af, ag, ah, aq, av⟩ zA A c dq v0 v1 v2 v3 v4 none 0 dq (.int .u8 (0 : Nat)) (.int .u64 (0 : Nat)) (.string ⟨#[]⟩) (.slice none 0 0) (.slice none 0 0) w' ⟨⟨h.sz.n, h.sz.f, h.sz.u, h.sz.s, h.sz.g, h.sz.h, h.sz.q⟩, h.q, h.v⟩ (shows_zA w' dq) hc))
 unfold argV at HSA
 simp only [zA] at HSA
 have hzz : zA = ⟨false, 0, ⟨#[]⟩, 0, ⟨#[]⟩, ⟨#[]⟩, [], zT⟩ := rfl
 simp only [] at hv ⊢
 rw [hzz]
 generalize sameA ⟨false, an, az, af, ag, ah, aq, av⟩ ⟨false, 0, ⟨#[]⟩, 0, ⟨#[]⟩, ⟨#[]⟩, [], zT⟩ = S at *
 clear hv hzz
 go_enter Tryz.func26, Tryz.ntmps26
 go_upto_region 1 with fail
 rw [HWW.out]
 go_wp2_with fail
 refine (HW.out _).mono ?_
 rintro e w1 ⟨rfl, rfl⟩
 go_wp2_with fail
 refine (HG.out _).mono ?_
 rintro e w1 ⟨rfl, rfl⟩
 go_wp2_with fail
 refine (HSA.out _ (HB.out.1.setCell (Nat.le_refl _) _)).mono ?_
 rintro e w2 ⟨rfl, hb2⟩
 have hB2 := (HB.out.1.setCell (Nat.le_refl _) _).trans (hb2.mono (HB.out.1.setCell (Nat.le_refl _) _).size)
 go_wp2_with fail
 go_ret
 exact ⟨rfl, hB2⟩
set_option maxRecDepth 100000 in
set_option maxHeartbeats 4000000 in
theorem valid_110 (a : ArgP) (A : Option Addr) (c dq : Nat) (v0 v1 v2 v3 v4 : Value) (w : World) (h : ShowsA w a A c dq v0 v1 v2 v3 v4) (hc : cntT a.v ≤ 1000000) (hi : a.is = true) :
  Calls Tryz.prog 26 #[.int .u8 (110 : Nat), argV a (.slice A a.q.length c) v0 v1 v2 v3 v4] w fun e w' => e = .returned (.bool (validB 110 a)) ∧ Below w.heap.size w w' := by
 obtain ⟨ai, an, az, af, ag, ah, aq, av⟩ := a
 obtain rfl : ai = true := hi
 have hz2 : az.size ≤ 140737488351232 := h.sz.s
 have hz4 : ag.size ≤ 140737488351232 := h.sz.g
 have hz5 : ah.size ≤ 140737488351232 := h.sz.h
 have hz6 : aq.length ≤ 17592186043904 := h.sz.q
 have hu6 : u32s aq := h.sz.u
 obtain ⟨a, ha⟩ : ∃ a : ArgP, a = ⟨true, an, az, af, ag, ah, aq, av⟩ := ⟨_, rfl⟩
 have HA := Lib.hid ha
 rw [← ha] at h
 have hX := BoxG.new w ⟨true, an, az, af, ag, ah, aq, av⟩ (.slice A aq.length c) v0 v1 v2 v3 v4
 have hb0 : Below w.heap.size w (w.alloc (Obj.cells #[.bool true, .int .u64 an, .string az, .int .u32 af, .string ag, .string ah, .slice A aq.length c, v0, v1, v2, v3, v4] 52)) := below_box w _
 have HS := Lib.hid (fun w' (hb : Below w.heap.size w w') => h.kept hb (Nat.le_refl _))
 have HW := Lib.hid (fun w => (show Calls Tryz.prog 36 #[.int .u8 (110 : Nat)] w fun e w' => e = .returned (.int .i64 1) ∧ w' = w from width_any 110 w))
 have HG := Lib.hid great1
 have hsz := h.sz
 unfold argV
 simp only [] at *
 generalize hW : w.alloc (Obj.cells #[.bool true, .int .u64 an, .string az, .int .u32 af, .string ag, .string ah, .slice A aq.length c, v0, v1, v2, v3, v4] 52) = W at *
 have HWW := Lib.hid hW
 have hXi := hX.setIs false
 have hbi : Below w.heap.size w (W.setCell ⟨w.heap.size, 0, none⟩ (.bool false)) := hb0.setCell (Nat.le_refl _) _
 have p0 := hX.cells.1.1
 have f0 := hX.fr 0
 have f1 := hX.fr 1
 have f2 := hX.fr 2
 have f3 := hX.fr 3
 have f4 := hX.fr 4
 have f5 := hX.fr 5
 have f6 := hX.fr 6
 have f7 := hX.fr 7
 have f8 := hX.fr 8
 have f9 := hX.fr 9
 have f10 := hX.fr 10
 have f11 := hX.fr 11
 obtain ⟨⟨p1, p2⟩, ⟨p3, p4, p5⟩, p6, p7, p8, p9, p10, p11⟩ := And.intro hX.cells.1.2 hX.cells.2
 have HB := Lib.hid (And.intro hb0 (And.intro hbi hXi))
 clear hX hb0 hbi hW ha h hsz
 by_cases hf : an < 256 ^ widD 110
 ·have ht : (an : Int) ≤ 255 := by have : an < 256 := hf; omega
  have hv := validB_of (k := 110) (a := ⟨true, an, az, af, ag, ah, aq, av⟩) (fun _ => rfl) ((fit_num _ (by decide)).2 hf) (bare_num _ (by decide))
  rw [hv]
  have HSA := Lib.hid (fun w' (hb : Below w.heap.size w w') => (show Calls Tryz.prog 56 _ w' _ from
   have h := HS.out w' hb
   have h := HA.out ▸ h
   sameArg_any ⟨false, 0, az, af, ag, ah, aq, av⟩ zA A c dq v0 v1 v2 v3 v4 none 0 dq (.int .u8 (0 : Nat)) (.int .u64 (0 : Nat)) (.string ⟨#[]⟩) (.slice none 0 0) (.slice none 0 0) w' ⟨⟨by show (0 : Nat) < _; decide, h.sz.f, h.sz.u, h.sz.s, h.sz.g, h.sz.h, h.sz.q⟩, h.q, h.v⟩ (shows_zA w' dq) hc))
  unfold argV at HSA
  simp only [zA] at HSA
  have hzz : zA = ⟨false, 0, ⟨#[]⟩, 0, ⟨#[]⟩, ⟨#[]⟩, [], zT⟩ := rfl
  simp only [] at hv ⊢
  rw [hzz]
  generalize sameA ⟨false, 0, az, af, ag, ah, aq, av⟩ ⟨false, 0, ⟨#[]⟩, 0, ⟨#[]⟩, ⟨#[]⟩, [], zT⟩ = S at *
  clear hv hzz hf
  go_enter Tryz.func26, Tryz.ntmps26
  go_upto_region 1 with fail
  rw [HWW.out]
  go_wp2_with fail
  refine (HW.out _).mono ?_
  rintro e w1 ⟨rfl, rfl⟩
  go_wp2_with fail
  refine (HG.out _).mono ?_
  rintro e w1 ⟨rfl, rfl⟩
  go_wp2_with fail
  refine (HSA.out _ ((HB.out.1.setCell (Nat.le_refl _) _).setCell (Nat.le_refl _) _)).mono ?_
  rintro e w2 ⟨rfl, hb2⟩
  have hB2 := ((HB.out.1.setCell (Nat.le_refl _) _).setCell (Nat.le_refl _) _).trans (hb2.mono ((HB.out.1.setCell (Nat.le_refl _) _).setCell (Nat.le_refl _) _).size)
  go_wp2_with fail
  go_ret
  exact ⟨rfl, hB2⟩
 ·have ht : ¬ (an : Int) ≤ 255 := by have h1 : ¬ an < 256 := hf; omega
  have hv := validB_fit (k := 110) (a := ⟨true, an, az, af, ag, ah, aq, av⟩) (fun c => hf ((fit_num _ (by decide)).1 c))
  rw [hv]
  clear hv hf
  go_enter Tryz.func26, Tryz.ntmps26
  go_upto_region 1 with fail
  rw [HWW.out]
  go_wp2_with fail
  refine (HW.out _).mono ?_
  rintro e w1 ⟨rfl, rfl⟩
  go_wp2_with fail
  refine (HG.out _).mono ?_
  rintro e w1 ⟨rfl, rfl⟩
  go_wp2_with fail
  go_ret
  exact ⟨rfl, ((HB.out.1.setCell (Nat.le_refl _) _).setCell (Nat.le_refl _) _)⟩
set_option maxRecDepth 100000 in
set_option maxHeartbeats 4000000 in
theorem valid_119 (a : ArgP) (A : Option Addr) (c dq : Nat) (v0 v1 v2 v3 v4 : Value) (w : World) (h : ShowsA w a A c dq v0 v1 v2 v3 v4) (hc : cntT a.v ≤ 1000000) (hi : a.is = true) :
  Calls Tryz.prog 26 #[.int .u8 (119 : Nat), argV a (.slice A a.q.length c) v0 v1 v2 v3 v4] w fun e w' => e = .returned (.bool (validB 119 a)) ∧ Below w.heap.size w w' := by
 obtain ⟨ai, an, az, af, ag, ah, aq, av⟩ := a
 obtain rfl : ai = true := hi
 have hz2 : az.size ≤ 140737488351232 := h.sz.s
 have hz4 : ag.size ≤ 140737488351232 := h.sz.g
 have hz5 : ah.size ≤ 140737488351232 := h.sz.h
 have hz6 : aq.length ≤ 17592186043904 := h.sz.q
 have hu6 : u32s aq := h.sz.u
 obtain ⟨a, ha⟩ : ∃ a : ArgP, a = ⟨true, an, az, af, ag, ah, aq, av⟩ := ⟨_, rfl⟩
 have HA := Lib.hid ha
 rw [← ha] at h
 have hX := BoxG.new w ⟨true, an, az, af, ag, ah, aq, av⟩ (.slice A aq.length c) v0 v1 v2 v3 v4
 have hb0 : Below w.heap.size w (w.alloc (Obj.cells #[.bool true, .int .u64 an, .string az, .int .u32 af, .string ag, .string ah, .slice A aq.length c, v0, v1, v2, v3, v4] 52)) := below_box w _
 have HS := Lib.hid (fun w' (hb : Below w.heap.size w w') => h.kept hb (Nat.le_refl _))
 have HW := Lib.hid (fun w => (show Calls Tryz.prog 36 #[.int .u8 (119 : Nat)] w fun e w' => e = .returned (.int .i64 2) ∧ w' = w from width_any 119 w))
 have HG := Lib.hid great2
 have hsz := h.sz
 unfold argV
 simp only [] at *
 generalize hW : w.alloc (Obj.cells #[.bool true, .int .u64 an, .string az, .int .u32 af, .string ag, .string ah, .slice A aq.length c, v0, v1, v2, v3, v4] 52) = W at *
 have HWW := Lib.hid hW
 have hXi := hX.setIs false
 have hbi : Below w.heap.size w (W.setCell ⟨w.heap.size, 0, none⟩ (.bool false)) := hb0.setCell (Nat.le_refl _) _
 have p0 := hX.cells.1.1
 have f0 := hX.fr 0
 have f1 := hX.fr 1
 have f2 := hX.fr 2
 have f3 := hX.fr 3
 have f4 := hX.fr 4
 have f5 := hX.fr 5
 have f6 := hX.fr 6
 have f7 := hX.fr 7
 have f8 := hX.fr 8
 have f9 := hX.fr 9
 have f10 := hX.fr 10
 have f11 := hX.fr 11
 obtain ⟨⟨p1, p2⟩, ⟨p3, p4, p5⟩, p6, p7, p8, p9, p10, p11⟩ := And.intro hX.cells.1.2 hX.cells.2
 have HB := Lib.hid (And.intro hb0 (And.intro hbi hXi))
 clear hX hb0 hbi hW ha h hsz
 by_cases hf : an < 256 ^ widD 119
 ·have ht : (an : Int) ≤ 65535 := by have : an < 65536 := hf; omega
  have hv := validB_of (k := 119) (a := ⟨true, an, az, af, ag, ah, aq, av⟩) (fun _ => rfl) ((fit_num _ (by decide)).2 hf) (bare_num _ (by decide))
  rw [hv]
  have HSA := Lib.hid (fun w' (hb : Below w.heap.size w w') => (show Calls Tryz.prog 56 _ w' _ from
   have h := HS.out w' hb
   have h := HA.out ▸ h
   sameArg_any ⟨false, 0, az, af, ag, ah, aq, av⟩ zA A c dq v0 v1 v2 v3 v4 none 0 dq (.int .u8 (0 : Nat)) (.int .u64 (0 : Nat)) (.string ⟨#[]⟩) (.slice none 0 0) (.slice none 0 0) w' ⟨⟨by show (0 : Nat) < _; decide, h.sz.f, h.sz.u, h.sz.s, h.sz.g, h.sz.h, h.sz.q⟩, h.q, h.v⟩ (shows_zA w' dq) hc))
  unfold argV at HSA
  simp only [zA] at HSA
  have hzz : zA = ⟨false, 0, ⟨#[]⟩, 0, ⟨#[]⟩, ⟨#[]⟩, [], zT⟩ := rfl
  simp only [] at hv ⊢
  rw [hzz]
  generalize sameA ⟨false, 0, az, af, ag, ah, aq, av⟩ ⟨false, 0, ⟨#[]⟩, 0, ⟨#[]⟩, ⟨#[]⟩, [], zT⟩ = S at *
  clear hv hzz hf
  go_enter Tryz.func26, Tryz.ntmps26
  go_upto_region 1 with fail
  rw [HWW.out]
  go_wp2_with fail
  refine (HW.out _).mono ?_
  rintro e w1 ⟨rfl, rfl⟩
  go_wp2_with fail
  refine (HG.out _).mono ?_
  rintro e w1 ⟨rfl, rfl⟩
  go_wp2_with fail
  refine (HSA.out _ ((HB.out.1.setCell (Nat.le_refl _) _).setCell (Nat.le_refl _) _)).mono ?_
  rintro e w2 ⟨rfl, hb2⟩
  have hB2 := ((HB.out.1.setCell (Nat.le_refl _) _).setCell (Nat.le_refl _) _).trans (hb2.mono ((HB.out.1.setCell (Nat.le_refl _) _).setCell (Nat.le_refl _) _).size)
  go_wp2_with fail
  go_ret
  exact ⟨rfl, hB2⟩
 ·have ht : ¬ (an : Int) ≤ 65535 := by have h1 : ¬ an < 65536 := hf; omega
  have hv := validB_fit (k := 119) (a := ⟨true, an, az, af, ag, ah, aq, av⟩) (fun c => hf ((fit_num _ (by decide)).1 c))
  rw [hv]
  clear hv hf
  go_enter Tryz.func26, Tryz.ntmps26
  go_upto_region 1 with fail
  rw [HWW.out]
  go_wp2_with fail
  refine (HW.out _).mono ?_
  rintro e w1 ⟨rfl, rfl⟩
  go_wp2_with fail
  refine (HG.out _).mono ?_
  rintro e w1 ⟨rfl, rfl⟩
  go_wp2_with fail
  go_ret
  exact ⟨rfl, ((HB.out.1.setCell (Nat.le_refl _) _).setCell (Nat.le_refl _) _)⟩
set_option maxRecDepth 100000 in
set_option maxHeartbeats 4000000 in
theorem valid_100 (a : ArgP) (A : Option Addr) (c dq : Nat) (v0 v1 v2 v3 v4 : Value) (w : World) (h : ShowsA w a A c dq v0 v1 v2 v3 v4) (hc : cntT a.v ≤ 1000000) (hi : a.is = true) :
  Calls Tryz.prog 26 #[.int .u8 (100 : Nat), argV a (.slice A a.q.length c) v0 v1 v2 v3 v4] w fun e w' => e = .returned (.bool (validB 100 a)) ∧ Below w.heap.size w w' := by
 obtain ⟨ai, an, az, af, ag, ah, aq, av⟩ := a
 obtain rfl : ai = true := hi
 have hz2 : az.size ≤ 140737488351232 := h.sz.s
 have hz4 : ag.size ≤ 140737488351232 := h.sz.g
 have hz5 : ah.size ≤ 140737488351232 := h.sz.h
 have hz6 : aq.length ≤ 17592186043904 := h.sz.q
 have hu6 : u32s aq := h.sz.u
 obtain ⟨a, ha⟩ : ∃ a : ArgP, a = ⟨true, an, az, af, ag, ah, aq, av⟩ := ⟨_, rfl⟩
 have HA := Lib.hid ha
 rw [← ha] at h
 have hX := BoxG.new w ⟨true, an, az, af, ag, ah, aq, av⟩ (.slice A aq.length c) v0 v1 v2 v3 v4
 have hb0 : Below w.heap.size w (w.alloc (Obj.cells #[.bool true, .int .u64 an, .string az, .int .u32 af, .string ag, .string ah, .slice A aq.length c, v0, v1, v2, v3, v4] 52)) := below_box w _
 have HS := Lib.hid (fun w' (hb : Below w.heap.size w w') => h.kept hb (Nat.le_refl _))
 have HW := Lib.hid (fun w => (show Calls Tryz.prog 36 #[.int .u8 (100 : Nat)] w fun e w' => e = .returned (.int .i64 4) ∧ w' = w from width_any 100 w))
 have HG := Lib.hid great4
 have hsz := h.sz
 unfold argV
 simp only [] at *
 generalize hW : w.alloc (Obj.cells #[.bool true, .int .u64 an, .string az, .int .u32 af, .string ag, .string ah, .slice A aq.length c, v0, v1, v2, v3, v4] 52) = W at *
 have HWW := Lib.hid hW
 have hXi := hX.setIs false
 have hbi : Below w.heap.size w (W.setCell ⟨w.heap.size, 0, none⟩ (.bool false)) := hb0.setCell (Nat.le_refl _) _
 have p0 := hX.cells.1.1
 have f0 := hX.fr 0
 have f1 := hX.fr 1
 have f2 := hX.fr 2
 have f3 := hX.fr 3
 have f4 := hX.fr 4
 have f5 := hX.fr 5
 have f6 := hX.fr 6
 have f7 := hX.fr 7
 have f8 := hX.fr 8
 have f9 := hX.fr 9
 have f10 := hX.fr 10
 have f11 := hX.fr 11
 obtain ⟨⟨p1, p2⟩, ⟨p3, p4, p5⟩, p6, p7, p8, p9, p10, p11⟩ := And.intro hX.cells.1.2 hX.cells.2
 have HB := Lib.hid (And.intro hb0 (And.intro hbi hXi))
 clear hX hb0 hbi hW ha h hsz
 by_cases hf : an < 256 ^ widD 100
 ·have ht : (an : Int) ≤ 4294967295 := by have : an < 4294967296 := hf; omega
  have hv := validB_of (k := 100) (a := ⟨true, an, az, af, ag, ah, aq, av⟩) (fun _ => rfl) ((fit_num _ (by decide)).2 hf) (bare_num _ (by decide))
  rw [hv]
  have HSA := Lib.hid (fun w' (hb : Below w.heap.size w w') => (show Calls Tryz.prog 56 _ w' _ from
   have h := HS.out w' hb
   have h := HA.out ▸ h
   sameArg_any ⟨false, 0, az, af, ag, ah, aq, av⟩ zA A c dq v0 v1 v2 v3 v4 none 0 dq (.int .u8 (0 : Nat)) (.int .u64 (0 : Nat)) (.string ⟨#[]⟩) (.slice none 0 0) (.slice none 0 0) w' ⟨⟨by show (0 : Nat) < _; decide, h.sz.f, h.sz.u, h.sz.s, h.sz.g, h.sz.h, h.sz.q⟩, h.q, h.v⟩ (shows_zA w' dq) hc))
  unfold argV at HSA
  simp only [zA] at HSA
  have hzz : zA = ⟨false, 0, ⟨#[]⟩, 0, ⟨#[]⟩, ⟨#[]⟩, [], zT⟩ := rfl
  simp only [] at hv ⊢
  rw [hzz]
  generalize sameA ⟨false, 0, az, af, ag, ah, aq, av⟩ ⟨false, 0, ⟨#[]⟩, 0, ⟨#[]⟩, ⟨#[]⟩, [], zT⟩ = S at *
  clear hv hzz hf
  go_enter Tryz.func26, Tryz.ntmps26
  go_upto_region 1 with fail
  rw [HWW.out]
  go_wp2_with fail
  refine (HW.out _).mono ?_
  rintro e w1 ⟨rfl, rfl⟩
  go_wp2_with fail
  refine (HG.out _).mono ?_
  rintro e w1 ⟨rfl, rfl⟩
  go_wp2_with fail
  refine (HSA.out _ ((HB.out.1.setCell (Nat.le_refl _) _).setCell (Nat.le_refl _) _)).mono ?_
  rintro e w2 ⟨rfl, hb2⟩
  have hB2 := ((HB.out.1.setCell (Nat.le_refl _) _).setCell (Nat.le_refl _) _).trans (hb2.mono ((HB.out.1.setCell (Nat.le_refl _) _).setCell (Nat.le_refl _) _).size)
  go_wp2_with fail
  go_ret
  exact ⟨rfl, hB2⟩
 ·have ht : ¬ (an : Int) ≤ 4294967295 := by have h1 : ¬ an < 4294967296 := hf; omega
  have hv := validB_fit (k := 100) (a := ⟨true, an, az, af, ag, ah, aq, av⟩) (fun c => hf ((fit_num _ (by decide)).1 c))
  rw [hv]
  clear hv hf
  go_enter Tryz.func26, Tryz.ntmps26
  go_upto_region 1 with fail
  rw [HWW.out]
  go_wp2_with fail
  refine (HW.out _).mono ?_
  rintro e w1 ⟨rfl, rfl⟩
  go_wp2_with fail
  refine (HG.out _).mono ?_
  rintro e w1 ⟨rfl, rfl⟩
  go_wp2_with fail
  go_ret
  exact ⟨rfl, ((HB.out.1.setCell (Nat.le_refl _) _).setCell (Nat.le_refl _) _)⟩
set_option maxRecDepth 100000 in
set_option maxHeartbeats 4000000 in
theorem valid_115 (a : ArgP) (A : Option Addr) (c dq : Nat) (v0 v1 v2 v3 v4 : Value) (w : World) (h : ShowsA w a A c dq v0 v1 v2 v3 v4) (hc : cntT a.v ≤ 1000000) (hi : a.is = true) :
  Calls Tryz.prog 26 #[.int .u8 (115 : Nat), argV a (.slice A a.q.length c) v0 v1 v2 v3 v4] w fun e w' => e = .returned (.bool (validB 115 a)) ∧ Below w.heap.size w w' := by
 obtain ⟨ai, an, az, af, ag, ah, aq, av⟩ := a
 obtain rfl : ai = true := hi
 have hz2 : az.size ≤ 140737488351232 := h.sz.s
 have hz4 : ag.size ≤ 140737488351232 := h.sz.g
 have hz5 : ah.size ≤ 140737488351232 := h.sz.h
 have hz6 : aq.length ≤ 17592186043904 := h.sz.q
 have hu6 : u32s aq := h.sz.u
 obtain ⟨a, ha⟩ : ∃ a : ArgP, a = ⟨true, an, az, af, ag, ah, aq, av⟩ := ⟨_, rfl⟩
 have HA := Lib.hid ha
 rw [← ha] at h
 have hX := BoxG.new w ⟨true, an, az, af, ag, ah, aq, av⟩ (.slice A aq.length c) v0 v1 v2 v3 v4
 have hb0 : Below w.heap.size w (w.alloc (Obj.cells #[.bool true, .int .u64 an, .string az, .int .u32 af, .string ag, .string ah, .slice A aq.length c, v0, v1, v2, v3, v4] 52)) := below_box w _
 have HS := Lib.hid (fun w' (hb : Below w.heap.size w w') => h.kept hb (Nat.le_refl _))
 have HW := Lib.hid (fun w => (show Calls Tryz.prog 36 #[.int .u8 (115 : Nat)] w fun e w' => e = .returned (.int .i64 1) ∧ w' = w from width_any 115 w))
 have HG := Lib.hid great1
 have hsz := h.sz
 unfold argV
 simp only [] at *
 generalize hW : w.alloc (Obj.cells #[.bool true, .int .u64 an, .string az, .int .u32 af, .string ag, .string ah, .slice A aq.length c, v0, v1, v2, v3, v4] 52) = W at *
 have HWW := Lib.hid hW
 have hXi := hX.setIs false
 have hbi : Below w.heap.size w (W.setCell ⟨w.heap.size, 0, none⟩ (.bool false)) := hb0.setCell (Nat.le_refl _) _
 have p0 := hX.cells.1.1
 have f0 := hX.fr 0
 have f1 := hX.fr 1
 have f2 := hX.fr 2
 have f3 := hX.fr 3
 have f4 := hX.fr 4
 have f5 := hX.fr 5
 have f6 := hX.fr 6
 have f7 := hX.fr 7
 have f8 := hX.fr 8
 have f9 := hX.fr 9
 have f10 := hX.fr 10
 have f11 := hX.fr 11
 obtain ⟨⟨p1, p2⟩, ⟨p3, p4, p5⟩, p6, p7, p8, p9, p10, p11⟩ := And.intro hX.cells.1.2 hX.cells.2
 have HB := Lib.hid (And.intro hb0 (And.intro hbi hXi))
 clear hX hb0 hbi hW ha h hsz
 by_cases hf : az.size < 256 ^ widD 115
 ·have ht : (az.size : Int) ≤ 255 := by have : az.size < 256 := hf; omega
  have hv := validB_of (k := 115) (a := ⟨true, an, az, af, ag, ah, aq, av⟩) (fun _ => rfl) ((fit_txt _ (by decide)).2 hf) (bare_txt _ (by decide))
  rw [hv]
  have HSA := Lib.hid (fun w' (hb : Below w.heap.size w w') => (show Calls Tryz.prog 56 _ w' _ from
   have h := HS.out w' hb
   have h := HA.out ▸ h
   sameArg_any ⟨false, an, ⟨#[]⟩, af, ag, ah, aq, av⟩ zA A c dq v0 v1 v2 v3 v4 none 0 dq (.int .u8 (0 : Nat)) (.int .u64 (0 : Nat)) (.string ⟨#[]⟩) (.slice none 0 0) (.slice none 0 0) w' ⟨⟨h.sz.n, h.sz.f, h.sz.u, by show (⟨#[]⟩ : ByteArray).size ≤ _; decide, h.sz.g, h.sz.h, h.sz.q⟩, h.q, h.v⟩ (shows_zA w' dq) hc))
  unfold argV at HSA
  simp only [zA] at HSA
  have hzz : zA = ⟨false, 0, ⟨#[]⟩, 0, ⟨#[]⟩, ⟨#[]⟩, [], zT⟩ := rfl
  simp only [] at hv ⊢
  rw [hzz]
  generalize sameA ⟨false, an, ⟨#[]⟩, af, ag, ah, aq, av⟩ ⟨false, 0, ⟨#[]⟩, 0, ⟨#[]⟩, ⟨#[]⟩, [], zT⟩ = S at *
  clear hv hzz hf
  go_enter Tryz.func26, Tryz.ntmps26
  go_upto_region 1 with fail
  rw [HWW.out]
  go_wp2_with fail
  refine (HW.out _).mono ?_
  rintro e w1 ⟨rfl, rfl⟩
  go_wp2_with fail
  refine (HG.out _).mono ?_
  rintro e w1 ⟨rfl, rfl⟩
  go_wp2_with fail
  refine (HSA.out _ ((HB.out.1.setCell (Nat.le_refl _) _).setCell (Nat.le_refl _) _)).mono ?_
  rintro e w2 ⟨rfl, hb2⟩
  have hB2 := ((HB.out.1.setCell (Nat.le_refl _) _).setCell (Nat.le_refl _) _).trans (hb2.mono ((HB.out.1.setCell (Nat.le_refl _) _).setCell (Nat.le_refl _) _).size)
  go_wp2_with fail
  go_ret
  exact ⟨rfl, hB2⟩
 ·have ht : ¬ (az.size : Int) ≤ 255 := by have h1 : ¬ az.size < 256 := hf; omega
  have hv := validB_fit (k := 115) (a := ⟨true, an, az, af, ag, ah, aq, av⟩) (fun c => hf ((fit_txt _ (by decide)).1 c))
  rw [hv]
  have hw64 : IntKind.u64.wrap (az.size : Int) = (az.size : Int) := by rw [IntKind.wrap_u64]; omega
  clear hv hf
  go_enter Tryz.func26, Tryz.ntmps26
  go_upto_region 1 with fail
  rw [HWW.out]
  go_wp2_with fail
  refine (HW.out _).mono ?_
  rintro e w1 ⟨rfl, rfl⟩
  go_wp2_with fail
  refine (HG.out _).mono ?_
  rintro e w1 ⟨rfl, rfl⟩
  go_wp2_with fail
  go_ret
  exact ⟨rfl, ((HB.out.1.setCell (Nat.le_refl _) _).setCell (Nat.le_refl _) _)⟩
set_option maxRecDepth 100000 in
set_option maxHeartbeats 4000000 in
theorem valid_116 (a : ArgP) (A : Option Addr) (c dq : Nat) (v0 v1 v2 v3 v4 : Value) (w : World) (h : ShowsA w a A c dq v0 v1 v2 v3 v4) (hc : cntT a.v ≤ 1000000) (hi : a.is = true) :
  Calls Tryz.prog 26 #[.int .u8 (116 : Nat), argV a (.slice A a.q.length c) v0 v1 v2 v3 v4] w fun e w' => e = .returned (.bool (validB 116 a)) ∧ Below w.heap.size w w' := by
 obtain ⟨ai, an, az, af, ag, ah, aq, av⟩ := a
 obtain rfl : ai = true := hi
 have hz2 : az.size ≤ 140737488351232 := h.sz.s
 have hz4 : ag.size ≤ 140737488351232 := h.sz.g
 have hz5 : ah.size ≤ 140737488351232 := h.sz.h
 have hz6 : aq.length ≤ 17592186043904 := h.sz.q
 have hu6 : u32s aq := h.sz.u
 obtain ⟨a, ha⟩ : ∃ a : ArgP, a = ⟨true, an, az, af, ag, ah, aq, av⟩ := ⟨_, rfl⟩
 have HA := Lib.hid ha
 rw [← ha] at h
 have hX := BoxG.new w ⟨true, an, az, af, ag, ah, aq, av⟩ (.slice A aq.length c) v0 v1 v2 v3 v4
 have hb0 : Below w.heap.size w (w.alloc (Obj.cells #[.bool true, .int .u64 an, .string az, .int .u32 af, .string ag, .string ah, .slice A aq.length c, v0, v1, v2, v3, v4] 52)) := below_box w _
 have HS := Lib.hid (fun w' (hb : Below w.heap.size w w') => h.kept hb (Nat.le_refl _))
 have HW := Lib.hid (fun w => (show Calls Tryz.prog 36 #[.int .u8 (116 : Nat)] w fun e w' => e = .returned (.int .i64 2) ∧ w' = w from width_any 116 w))
 have HG := Lib.hid great2
 have hsz := h.sz
 unfold argV
 simp only [] at *
 generalize hW : w.alloc (Obj.cells #[.bool true, .int .u64 an, .string az, .int .u32 af, .string ag, .string ah, .slice A aq.length c, v0, v1, v2, v3, v4] 52) = W at *
 have HWW := Lib.hid hW
 have hXi := hX.setIs false
 have hbi : Below w.heap.size w (W.setCell ⟨w.heap.size, 0, none⟩ (.bool false)) := hb0.setCell (Nat.le_refl _) _
 have p0 := hX.cells.1.1
 have f0 := hX.fr 0
 have f1 := hX.fr 1
 have f2 := hX.fr 2
 have f3 := hX.fr 3
 have f4 := hX.fr 4
 have f5 := hX.fr 5
 have f6 := hX.fr 6
 have f7 := hX.fr 7
 have f8 := hX.fr 8
 have f9 := hX.fr 9
 have f10 := hX.fr 10
 have f11 := hX.fr 11
 obtain ⟨⟨p1, p2⟩, ⟨p3, p4, p5⟩, p6, p7, p8, p9, p10, p11⟩ := And.intro hX.cells.1.2 hX.cells.2
 have HB := Lib.hid (And.intro hb0 (And.intro hbi hXi))
 clear hX hb0 hbi hW ha h hsz
 by_cases hf : az.size < 256 ^ widD 116
 ·have ht : (az.size : Int) ≤ 65535 := by have : az.size < 65536 := hf; omega
  have hv := validB_of (k := 116) (a := ⟨true, an, az, af, ag, ah, aq, av⟩) (fun _ => rfl) ((fit_txt _ (by decide)).2 hf) (bare_txt _ (by decide))
  rw [hv]
  have HSA := Lib.hid (fun w' (hb : Below w.heap.size w w') => (show Calls Tryz.prog 56 _ w' _ from
   have h := HS.out w' hb
   have h := HA.out ▸ h
   sameArg_any ⟨false, an, ⟨#[]⟩, af, ag, ah, aq, av⟩ zA A c dq v0 v1 v2 v3 v4 none 0 dq (.int .u8 (0 : Nat)) (.int .u64 (0 : Nat)) (.string ⟨#[]⟩) (.slice none 0 0) (.slice none 0 0) w' ⟨⟨h.sz.n, h.sz.f, h.sz.u, by show (⟨#[]⟩ : ByteArray).size ≤ _; decide, h.sz.g, h.sz.h, h.sz.q⟩, h.q, h.v⟩ (shows_zA w' dq) hc))
  unfold argV at HSA
  simp only [zA] at HSA
  have hzz : zA = ⟨false, 0, ⟨#[]⟩, 0, ⟨#[]⟩, ⟨#[]⟩, [], zT⟩ := rfl
  simp only [] at hv ⊢
  rw [hzz]
  generalize sameA ⟨false, an, ⟨#[]⟩, af, ag, ah, aq, av⟩ ⟨false, 0, ⟨#[]⟩, 0, ⟨#[]⟩, ⟨#[]⟩, [], zT⟩ = S at *
  clear hv hzz hf
  go_enter Tryz.func26, Tryz.ntmps26
  go_upto_region 1 with fail
  rw [HWW.out]
  go_wp2_with fail
  refine (HW.out _).mono ?_
  rintro e w1 ⟨rfl, rfl⟩
  go_wp2_with fail
  refine (HG.out _).mono ?_
  rintro e w1 ⟨rfl, rfl⟩
  go_wp2_with fail
  refine (HSA.out _ ((HB.out.1.setCell (Nat.le_refl _) _).setCell (Nat.le_refl _) _)).mono ?_
  rintro e w2 ⟨rfl, hb2⟩
  have hB2 := ((HB.out.1.setCell (Nat.le_refl _) _).setCell (Nat.le_refl _) _).trans (hb2.mono ((HB.out.1.setCell (Nat.le_refl _) _).setCell (Nat.le_refl _) _).size)
  go_wp2_with fail
  go_ret
  exact ⟨rfl, hB2⟩
 ·have ht : ¬ (az.size : Int) ≤ 65535 := by have h1 : ¬ az.size < 65536 := hf; omega
  have hv := validB_fit (k := 116) (a := ⟨true, an, az, af, ag, ah, aq, av⟩) (fun c => hf ((fit_txt _ (by decide)).1 c))
  rw [hv]
  have hw64 : IntKind.u64.wrap (az.size : Int) = (az.size : Int) := by rw [IntKind.wrap_u64]; omega
  clear hv hf
  go_enter Tryz.func26, Tryz.ntmps26
  go_upto_region 1 with fail
  rw [HWW.out]
  go_wp2_with fail
  refine (HW.out _).mono ?_
  rintro e w1 ⟨rfl, rfl⟩
  go_wp2_with fail
  refine (HG.out _).mono ?_
  rintro e w1 ⟨rfl, rfl⟩
  go_wp2_with fail
  go_ret
  exact ⟨rfl, ((HB.out.1.setCell (Nat.le_refl _) _).setCell (Nat.le_refl _) _)⟩
set_option maxRecDepth 100000 in
set_option maxHeartbeats 4000000 in
theorem valid_120 (a : ArgP) (A : Option Addr) (c dq : Nat) (v0 v1 v2 v3 v4 : Value) (w : World) (h : ShowsA w a A c dq v0 v1 v2 v3 v4) (hc : cntT a.v ≤ 1000000) (hi : a.is = true) :
  Calls Tryz.prog 26 #[.int .u8 (120 : Nat), argV a (.slice A a.q.length c) v0 v1 v2 v3 v4] w fun e w' => e = .returned (.bool (validB 120 a)) ∧ Below w.heap.size w w' := by
 obtain ⟨ai, an, az, af, ag, ah, aq, av⟩ := a
 obtain rfl : ai = true := hi
 have hz2 : az.size ≤ 140737488351232 := h.sz.s
 have hz4 : ag.size ≤ 140737488351232 := h.sz.g
 have hz5 : ah.size ≤ 140737488351232 := h.sz.h
 have hz6 : aq.length ≤ 17592186043904 := h.sz.q
 have hu6 : u32s aq := h.sz.u
 obtain ⟨a, ha⟩ : ∃ a : ArgP, a = ⟨true, an, az, af, ag, ah, aq, av⟩ := ⟨_, rfl⟩
 have HA := Lib.hid ha
 rw [← ha] at h
 have hX := BoxG.new w ⟨true, an, az, af, ag, ah, aq, av⟩ (.slice A aq.length c) v0 v1 v2 v3 v4
 have hb0 : Below w.heap.size w (w.alloc (Obj.cells #[.bool true, .int .u64 an, .string az, .int .u32 af, .string ag, .string ah, .slice A aq.length c, v0, v1, v2, v3, v4] 52)) := below_box w _
 have HS := Lib.hid (fun w' (hb : Below w.heap.size w w') => h.kept hb (Nat.le_refl _))
 have HW := Lib.hid (fun w => (show Calls Tryz.prog 36 #[.int .u8 (120 : Nat)] w fun e w' => e = .returned (.int .i64 0) ∧ w' = w from width_any 120 w))
 have HG := Lib.hid great0
 have hsz := h.sz
 unfold argV
 simp only [] at *
 generalize hW : w.alloc (Obj.cells #[.bool true, .int .u64 an, .string az, .int .u32 af, .string ag, .string ah, .slice A aq.length c, v0, v1, v2, v3, v4] 52) = W at *
 have HWW := Lib.hid hW
 have hXi := hX.setIs false
 have hbi : Below w.heap.size w (W.setCell ⟨w.heap.size, 0, none⟩ (.bool false)) := hb0.setCell (Nat.le_refl _) _
 have p0 := hX.cells.1.1
 have f0 := hX.fr 0
 have f1 := hX.fr 1
 have f2 := hX.fr 2
 have f3 := hX.fr 3
 have f4 := hX.fr 4
 have f5 := hX.fr 5
 have f6 := hX.fr 6
 have f7 := hX.fr 7
 have f8 := hX.fr 8
 have f9 := hX.fr 9
 have f10 := hX.fr 10
 have f11 := hX.fr 11
 obtain ⟨⟨p1, p2⟩, ⟨p3, p4, p5⟩, p6, p7, p8, p9, p10, p11⟩ := And.intro hX.cells.1.2 hX.cells.2
 have HB := Lib.hid (And.intro hb0 (And.intro hbi hXi))
 clear hX hb0 hbi hW ha h hsz
 by_cases hf : mayX ag ah
 ·
  have HC := Lib.hid (fun w => (show Calls Tryz.prog 53 #[.agg #[.int .u32 af, .string ag, .string ah]] w _ from x_check_ok af ag ah w hf))
  have hv := validB_of (k := 120) (a := ⟨true, an, az, af, ag, ah, aq, av⟩) (fun _ => rfl) ((fit_x _).2 hf) (bare_x _)
  rw [hv]
  have HSA := Lib.hid (fun w' (hb : Below w.heap.size w w') => (show Calls Tryz.prog 56 _ w' _ from
   have h := HS.out w' hb
   have h := HA.out ▸ h
   sameArg_any ⟨false, an, az, 0, ⟨#[]⟩, ⟨#[]⟩, aq, av⟩ zA A c dq v0 v1 v2 v3 v4 none 0 dq (.int .u8 (0 : Nat)) (.int .u64 (0 : Nat)) (.string ⟨#[]⟩) (.slice none 0 0) (.slice none 0 0) w' ⟨⟨h.sz.n, by show (0 : Nat) < _; decide, h.sz.u, h.sz.s, by show (⟨#[]⟩ : ByteArray).size ≤ _; decide, by show (⟨#[]⟩ : ByteArray).size ≤ _; decide, h.sz.q⟩, h.q, h.v⟩ (shows_zA w' dq) hc))
  unfold argV at HSA
  simp only [zA] at HSA
  have hzz : zA = ⟨false, 0, ⟨#[]⟩, 0, ⟨#[]⟩, ⟨#[]⟩, [], zT⟩ := rfl
  simp only [] at hv ⊢
  rw [hzz]
  generalize sameA ⟨false, an, az, 0, ⟨#[]⟩, ⟨#[]⟩, aq, av⟩ ⟨false, 0, ⟨#[]⟩, 0, ⟨#[]⟩, ⟨#[]⟩, [], zT⟩ = S at *
  clear hv hzz hf
  go_enter Tryz.func26, Tryz.ntmps26
  go_upto_region 1 with fail
  rw [HWW.out]
  go_wp2_with fail
  refine (HW.out _).mono ?_
  rintro e w1 ⟨rfl, rfl⟩
  go_wp2_with fail
  refine (HG.out _).mono ?_
  rintro e w1 ⟨rfl, rfl⟩
  go_wp2_with fail
  refine (HC.out _).mono ?_
  rintro e w2 ⟨rfl, hb2⟩
  have hX2 := HB.out.2.2.kept hb2 (Nat.le_refl _)
  have hB2 : Below w.heap.size w w2 := HB.out.2.1.trans (hb2.mono HB.out.2.1.size)
  have HB2 := Lib.hid hB2
  clear f0 f1 f2 f3 f4 f5 f6 f7 f8 f9 f10 f11 p0 p1 p2 p3 p4 p5 p6 p7 p8 p9 p10 p11 hXi hb2 hB2
  have f0 := hX2.fr 0
  have f1 := hX2.fr 1
  have f2 := hX2.fr 2
  have f3 := hX2.fr 3
  have f4 := hX2.fr 4
  have f5 := hX2.fr 5
  have f6 := hX2.fr 6
  have f7 := hX2.fr 7
  have f8 := hX2.fr 8
  have f9 := hX2.fr 9
  have f10 := hX2.fr 10
  have f11 := hX2.fr 11
  obtain ⟨⟨p0, p1, p2⟩, ⟨p3, p4, p5⟩, p6, p7, p8, p9, p10, p11⟩ := hX2.cells
  clear hX2
  go_wp2_with fail
  refine (HSA.out _ (((HB2.out.setCell (Nat.le_refl _) _).setCell (Nat.le_refl _) _).setCell (Nat.le_refl _) _)).mono ?_
  rintro e w3 ⟨rfl, hb3⟩
  have hB3 := (((HB2.out.setCell (Nat.le_refl _) _).setCell (Nat.le_refl _) _).setCell (Nat.le_refl _) _).trans (hb3.mono (((HB2.out.setCell (Nat.le_refl _) _).setCell (Nat.le_refl _) _).setCell (Nat.le_refl _) _).size)
  go_wp2_with fail
  go_ret
  exact ⟨rfl, hB3⟩
 ·
  have HC := Lib.hid (fun w => (show Calls Tryz.prog 53 #[.agg #[.int .u32 af, .string ag, .string ah]] w _ from check_no af ag ah w hf (by omega) (by omega)))
  have hv := validB_fit (k := 120) (a := ⟨true, an, az, af, ag, ah, aq, av⟩) (fun c => hf ((fit_x _).1 c))
  rw [hv]
  clear hv hf
  go_enter Tryz.func26, Tryz.ntmps26
  go_upto_region 1 with fail
  rw [HWW.out]
  go_wp2_with fail
  refine (HW.out _).mono ?_
  rintro e w1 ⟨rfl, rfl⟩
  go_wp2_with fail
  refine (HG.out _).mono ?_
  rintro e w1 ⟨rfl, rfl⟩
  go_wp2_with fail
  refine (HC.out _).mono ?_
  rintro e w2 ⟨rfl, hb2⟩
  have hX2 := HB.out.2.2.kept hb2 (Nat.le_refl _)
  have hB2 : Below w.heap.size w w2 := HB.out.2.1.trans (hb2.mono HB.out.2.1.size)
  have HB2 := Lib.hid hB2
  clear f0 f1 f2 f3 f4 f5 f6 f7 f8 f9 f10 f11 p0 p1 p2 p3 p4 p5 p6 p7 p8 p9 p10 p11 hXi hb2 hB2
  have f0 := hX2.fr 0
  have f1 := hX2.fr 1
  have f2 := hX2.fr 2
  have f3 := hX2.fr 3
  have f4 := hX2.fr 4
  have f5 := hX2.fr 5
  have f6 := hX2.fr 6
  have f7 := hX2.fr 7
  have f8 := hX2.fr 8
  have f9 := hX2.fr 9
  have f10 := hX2.fr 10
  have f11 := hX2.fr 11
  obtain ⟨⟨p0, p1, p2⟩, ⟨p3, p4, p5⟩, p6, p7, p8, p9, p10, p11⟩ := hX2.cells
  clear hX2
  go_wp2_with fail
  go_ret
  exact ⟨rfl, (((HB2.out.setCell (Nat.le_refl _) _).setCell (Nat.le_refl _) _).setCell (Nat.le_refl _) _)⟩
set_option maxRecDepth 100000 in
set_option maxHeartbeats 4000000 in
theorem valid_114 (a : ArgP) (A : Option Addr) (c dq : Nat) (v0 v1 v2 v3 v4 : Value) (w : World) (h : ShowsA w a A c dq v0 v1 v2 v3 v4) (hc : cntT a.v ≤ 1000000) (hi : a.is = true) :
  Calls Tryz.prog 26 #[.int .u8 (114 : Nat), argV a (.slice A a.q.length c) v0 v1 v2 v3 v4] w fun e w' => e = .returned (.bool (validB 114 a)) ∧ Below w.heap.size w w' := by
 obtain ⟨ai, an, az, af, ag, ah, aq, av⟩ := a
 obtain rfl : ai = true := hi
 have hz2 : az.size ≤ 140737488351232 := h.sz.s
 have hz4 : ag.size ≤ 140737488351232 := h.sz.g
 have hz5 : ah.size ≤ 140737488351232 := h.sz.h
 have hz6 : aq.length ≤ 17592186043904 := h.sz.q
 have hu6 : u32s aq := h.sz.u
 obtain ⟨a, ha⟩ : ∃ a : ArgP, a = ⟨true, an, az, af, ag, ah, aq, av⟩ := ⟨_, rfl⟩
 have HA := Lib.hid ha
 rw [← ha] at h
 have hX := BoxG.new w ⟨true, an, az, af, ag, ah, aq, av⟩ (.slice A aq.length c) v0 v1 v2 v3 v4
 have hb0 : Below w.heap.size w (w.alloc (Obj.cells #[.bool true, .int .u64 an, .string az, .int .u32 af, .string ag, .string ah, .slice A aq.length c, v0, v1, v2, v3, v4] 52)) := below_box w _
 have HS := Lib.hid (fun w' (hb : Below w.heap.size w w') => h.kept hb (Nat.le_refl _))
 have HW := Lib.hid (fun w => (show Calls Tryz.prog 36 #[.int .u8 (114 : Nat)] w fun e w' => e = .returned (.int .i64 0) ∧ w' = w from width_any 114 w))
 have HG := Lib.hid great0
 have hsz := h.sz
 unfold argV
 simp only [] at *
 generalize hW : w.alloc (Obj.cells #[.bool true, .int .u64 an, .string az, .int .u32 af, .string ag, .string ah, .slice A aq.length c, v0, v1, v2, v3, v4] 52) = W at *
 have HWW := Lib.hid hW
 have hXi := hX.setIs false
 have hbi : Below w.heap.size w (W.setCell ⟨w.heap.size, 0, none⟩ (.bool false)) := hb0.setCell (Nat.le_refl _) _
 have p0 := hX.cells.1.1
 have f0 := hX.fr 0
 have f1 := hX.fr 1
 have f2 := hX.fr 2
 have f3 := hX.fr 3
 have f4 := hX.fr 4
 have f5 := hX.fr 5
 have f6 := hX.fr 6
 have f7 := hX.fr 7
 have f8 := hX.fr 8
 have f9 := hX.fr 9
 have f10 := hX.fr 10
 have f11 := hX.fr 11
 obtain ⟨⟨p1, p2⟩, ⟨p3, p4, p5⟩, p6, p7, p8, p9, p10, p11⟩ := And.intro hX.cells.1.2 hX.cells.2
 have HB := Lib.hid (And.intro hb0 (And.intro hbi hXi))
 clear hX hb0 hbi hW ha h hsz
 by_cases hcl : canon aq ∧ aq.length ≤ 1000
 ·
  have hf : canon aq ∧ aq.length ≤ 1000 := hcl
  obtain ⟨hcn, hl⟩ := hcl
  have hi1 : (aq.length : Int) ≤ 1000 := by omega
  have HC := Lib.hid (fun w' (hb : Below w.heap.size w w') => (show Calls Tryz.prog 54 #[.slice A aq.length c] w' _ from right_any A c aq.length dq aq w' rfl (by have h := HS.out w' hb; have h := HA.out ▸ h; exact h.q) hu6 (by omega)))
  rw [decide_eq_true hcn] at HC
  clear hcn
  have hv := validB_of (k := 114) (a := ⟨true, an, az, af, ag, ah, aq, av⟩) (fun _ => rfl) ((fit_q _).2 hf) (bare_q _)
  rw [hv]
  have HSA := Lib.hid (fun w' (hb : Below w.heap.size w w') => (show Calls Tryz.prog 56 _ w' _ from
   have h := HS.out w' hb
   have h := HA.out ▸ h
   sameArg_any ⟨false, an, az, af, ag, ah, [], av⟩ zA none 0 dq v0 v1 v2 v3 v4 none 0 dq (.int .u8 (0 : Nat)) (.int .u64 (0 : Nat)) (.string ⟨#[]⟩) (.slice none 0 0) (.slice none 0 0) w' ⟨⟨h.sz.n, h.sz.f, fun s hs => (by cases hs), h.sz.s, h.sz.g, h.sz.h, by show (0 : Nat) ≤ _; omega⟩, ShowsG.nil_ _ _ dq, h.v⟩ (shows_zA w' dq) hc))
  unfold argV at HSA
  simp only [zA] at HSA
  have hzz : zA = ⟨false, 0, ⟨#[]⟩, 0, ⟨#[]⟩, ⟨#[]⟩, [], zT⟩ := rfl
  simp only [] at hv ⊢
  rw [hzz]
  generalize sameA ⟨false, an, az, af, ag, ah, [], av⟩ ⟨false, 0, ⟨#[]⟩, 0, ⟨#[]⟩, ⟨#[]⟩, [], zT⟩ = S at *
  clear hv hzz hf
  go_enter Tryz.func26, Tryz.ntmps26
  go_upto_region 1 with fail
  rw [HWW.out]
  go_wp2_with fail
  refine (HW.out _).mono ?_
  rintro e w1 ⟨rfl, rfl⟩
  go_wp2_with fail
  refine (HG.out _).mono ?_
  rintro e w1 ⟨rfl, rfl⟩
  go_wp2_with fail
  refine (HC.out _ HB.out.2.1).mono ?_
  rintro e w2 ⟨rfl, hb2⟩
  have hX2 := HB.out.2.2.kept hb2 (Nat.le_refl _)
  have hB2 : Below w.heap.size w w2 := HB.out.2.1.trans (hb2.mono HB.out.2.1.size)
  have HB2 := Lib.hid hB2
  clear f0 f1 f2 f3 f4 f5 f6 f7 f8 f9 f10 f11 p0 p1 p2 p3 p4 p5 p6 p7 p8 p9 p10 p11 hXi hb2 hB2
  have f0 := hX2.fr 0
  have f1 := hX2.fr 1
  have f2 := hX2.fr 2
  have f3 := hX2.fr 3
  have f4 := hX2.fr 4
  have f5 := hX2.fr 5
  have f6 := hX2.fr 6
  have f7 := hX2.fr 7
  have f8 := hX2.fr 8
  have f9 := hX2.fr 9
  have f10 := hX2.fr 10
  have f11 := hX2.fr 11
  obtain ⟨⟨p0, p1, p2⟩, ⟨p3, p4, p5⟩, p6, p7, p8, p9, p10, p11⟩ := hX2.cells
  clear hX2
  go_wp2_with fail
  refine (HSA.out _ (HB2.out.setCell (Nat.le_refl _) _)).mono ?_
  rintro e w3 ⟨rfl, hb3⟩
  have hB3 := (HB2.out.setCell (Nat.le_refl _) _).trans (hb3.mono (HB2.out.setCell (Nat.le_refl _) _).size)
  go_wp2_with fail
  go_ret
  exact ⟨rfl, hB3⟩
 by_cases hcn : canon aq
 ·
  have hf : ¬ (canon aq ∧ aq.length ≤ 1000) := hcl
  have hi1 : ¬ (aq.length : Int) ≤ 1000 := by have h1 : ¬ aq.length ≤ 1000 := fun h => hcl ⟨hcn, h⟩; omega
  clear hcl
  have HC := Lib.hid (fun w' (hb : Below w.heap.size w w') => (show Calls Tryz.prog 54 #[.slice A aq.length c] w' _ from right_any A c aq.length dq aq w' rfl (by have h := HS.out w' hb; have h := HA.out ▸ h; exact h.q) hu6 (by omega)))
  rw [decide_eq_true hcn] at HC
  clear hcn
  have hv := validB_fit (k := 114) (a := ⟨true, an, az, af, ag, ah, aq, av⟩) (fun c => hf ((fit_q _).1 c))
  rw [hv]
  clear hv hf
  go_enter Tryz.func26, Tryz.ntmps26
  go_upto_region 1 with fail
  rw [HWW.out]
  go_wp2_with fail
  refine (HW.out _).mono ?_
  rintro e w1 ⟨rfl, rfl⟩
  go_wp2_with fail
  refine (HG.out _).mono ?_
  rintro e w1 ⟨rfl, rfl⟩
  go_wp2_with fail
  refine (HC.out _ HB.out.2.1).mono ?_
  rintro e w2 ⟨rfl, hb2⟩
  have hX2 := HB.out.2.2.kept hb2 (Nat.le_refl _)
  have hB2 : Below w.heap.size w w2 := HB.out.2.1.trans (hb2.mono HB.out.2.1.size)
  have HB2 := Lib.hid hB2
  clear f0 f1 f2 f3 f4 f5 f6 f7 f8 f9 f10 f11 p0 p1 p2 p3 p4 p5 p6 p7 p8 p9 p10 p11 hXi hb2 hB2
  have f0 := hX2.fr 0
  have f1 := hX2.fr 1
  have f2 := hX2.fr 2
  have f3 := hX2.fr 3
  have f4 := hX2.fr 4
  have f5 := hX2.fr 5
  have f6 := hX2.fr 6
  have f7 := hX2.fr 7
  have f8 := hX2.fr 8
  have f9 := hX2.fr 9
  have f10 := hX2.fr 10
  have f11 := hX2.fr 11
  obtain ⟨⟨p0, p1, p2⟩, ⟨p3, p4, p5⟩, p6, p7, p8, p9, p10, p11⟩ := hX2.cells
  clear hX2
  go_wp2_with fail
  go_ret
  exact ⟨rfl, (HB2.out.setCell (Nat.le_refl _) _)⟩
 ·
  have hf : ¬ (canon aq ∧ aq.length ≤ 1000) := hcl
  clear hcl
  have HC := Lib.hid (fun w' (hb : Below w.heap.size w w') => (show Calls Tryz.prog 54 #[.slice A aq.length c] w' _ from right_any A c aq.length dq aq w' rfl (by have h := HS.out w' hb; have h := HA.out ▸ h; exact h.q) hu6 (by omega)))
  rw [decide_eq_false hcn] at HC
  clear hcn
  have hv := validB_fit (k := 114) (a := ⟨true, an, az, af, ag, ah, aq, av⟩) (fun c => hf ((fit_q _).1 c))
  rw [hv]
  clear hv hf
  go_enter Tryz.func26, Tryz.ntmps26
  go_upto_region 1 with fail
  rw [HWW.out]
  go_wp2_with fail
  refine (HW.out _).mono ?_
  rintro e w1 ⟨rfl, rfl⟩
  go_wp2_with fail
  refine (HG.out _).mono ?_
  rintro e w1 ⟨rfl, rfl⟩
  go_wp2_with fail
  refine (HC.out _ HB.out.2.1).mono ?_
  rintro e w2 ⟨rfl, hb2⟩
  have hX2 := HB.out.2.2.kept hb2 (Nat.le_refl _)
  have hB2 : Below w.heap.size w w2 := HB.out.2.1.trans (hb2.mono HB.out.2.1.size)
  have HB2 := Lib.hid hB2
  clear f0 f1 f2 f3 f4 f5 f6 f7 f8 f9 f10 f11 p0 p1 p2 p3 p4 p5 p6 p7 p8 p9 p10 p11 hXi hb2 hB2
  have f0 := hX2.fr 0
  have f1 := hX2.fr 1
  have f2 := hX2.fr 2
  have f3 := hX2.fr 3
  have f4 := hX2.fr 4
  have f5 := hX2.fr 5
  have f6 := hX2.fr 6
  have f7 := hX2.fr 7
  have f8 := hX2.fr 8
  have f9 := hX2.fr 9
  have f10 := hX2.fr 10
  have f11 := hX2.fr 11
  obtain ⟨⟨p0, p1, p2⟩, ⟨p3, p4, p5⟩, p6, p7, p8, p9, p10, p11⟩ := hX2.cells
  clear hX2
  go_wp2_with fail
  go_ret
  exact ⟨rfl, (HB2.out.setCell (Nat.le_refl _) _)⟩
set_option maxRecDepth 100000 in
set_option maxHeartbeats 4000000 in
theorem valid_118 (a : ArgP) (A : Option Addr) (c dq : Nat) (v0 v1 v2 v3 v4 : Value) (w : World) (h : ShowsA w a A c dq v0 v1 v2 v3 v4) (hc : cntT a.v ≤ 1000000) (hi : a.is = true) :
  Calls Tryz.prog 26 #[.int .u8 (118 : Nat), argV a (.slice A a.q.length c) v0 v1 v2 v3 v4] w fun e w' => e = .returned (.bool (validB 118 a)) ∧ Below w.heap.size w w' := by
 obtain ⟨ai, an, az, af, ag, ah, aq, av⟩ := a
 obtain rfl : ai = true := hi
 have hz2 : az.size ≤ 140737488351232 := h.sz.s
 have hz4 : ag.size ≤ 140737488351232 := h.sz.g
 have hz5 : ah.size ≤ 140737488351232 := h.sz.h
 have hz6 : aq.length ≤ 17592186043904 := h.sz.q
 have hu6 : u32s aq := h.sz.u
 obtain ⟨a, ha⟩ : ∃ a : ArgP, a = ⟨true, an, az, af, ag, ah, aq, av⟩ := ⟨_, rfl⟩
 have HA := Lib.hid ha
 rw [← ha] at h
 have hX := BoxG.new w ⟨true, an, az, af, ag, ah, aq, av⟩ (.slice A aq.length c) v0 v1 v2 v3 v4
 have hb0 : Below w.heap.size w (w.alloc (Obj.cells #[.bool true, .int .u64 an, .string az, .int .u32 af, .string ag, .string ah, .slice A aq.length c, v0, v1, v2, v3, v4] 52)) := below_box w _
 have HS := Lib.hid (fun w' (hb : Below w.heap.size w w') => h.kept hb (Nat.le_refl _))
 have HW := Lib.hid (fun w => (show Calls Tryz.prog 36 #[.int .u8 (118 : Nat)] w fun e w' => e = .returned (.int .i64 0) ∧ w' = w from width_any 118 w))
 have HG := Lib.hid great0
 have hsz := h.sz
 unfold argV
 simp only [] at *
 generalize hW : w.alloc (Obj.cells #[.bool true, .int .u64 an, .string az, .int .u32 af, .string ag, .string ah, .slice A aq.length c, v0, v1, v2, v3, v4] 52) = W at *
 have HWW := Lib.hid hW
 have hXi := hX.setIs false
 have hbi : Below w.heap.size w (W.setCell ⟨w.heap.size, 0, none⟩ (.bool false)) := hb0.setCell (Nat.le_refl _) _
 have p0 := hX.cells.1.1
 have f0 := hX.fr 0
 have f1 := hX.fr 1
 have f2 := hX.fr 2
 have f3 := hX.fr 3
 have f4 := hX.fr 4
 have f5 := hX.fr 5
 have f6 := hX.fr 6
 have f7 := hX.fr 7
 have f8 := hX.fr 8
 have f9 := hX.fr 9
 have f10 := hX.fr 10
 have f11 := hX.fr 11
 obtain ⟨⟨p1, p2⟩, ⟨p3, p4, p5⟩, p6, p7, p8, p9, p10, p11⟩ := And.intro hX.cells.1.2 hX.cells.2
 have HB := Lib.hid (And.intro hb0 (And.intro hbi hXi))
 clear hX hb0 hbi hW ha h hsz
 have HC0 := Lib.hid (fun w' (hb : Below w.heap.size w w') => (show Calls Tryz.prog 55 #[.agg #[v0, v1, v2, v3, v4]] w' _ from check_any av [v0, v1, v2, v3, v4] w' (by have h := HS.out w' hb; have h := HA.out ▸ h; exact h.v)))
 by_cases hf : checkT av = 0
 ·
  have HC := HC0
  rw [hf] at HC
  clear HC0
  have hv := validB_of (k := 118) (a := ⟨true, an, az, af, ag, ah, aq, av⟩) (fun _ => rfl) ((fit_v _).2 hf) (bare_v _)
  rw [hv]
  have HSA := Lib.hid (fun w' (hb : Below w.heap.size w w') => (show Calls Tryz.prog 56 _ w' _ from
   have h := HS.out w' hb
   have h := HA.out ▸ h
   sameArg_any ⟨false, an, az, af, ag, ah, aq, zT⟩ zA A c dq (.int .u8 (0 : Nat)) (.int .u64 (0 : Nat)) (.string ⟨#[]⟩) (.slice none 0 0) (.slice none 0 0) none 0 dq (.int .u8 (0 : Nat)) (.int .u64 (0 : Nat)) (.string ⟨#[]⟩) (.slice none 0 0) (.slice none 0 0) w' ⟨⟨h.sz.n, h.sz.f, h.sz.u, h.sz.s, h.sz.g, h.sz.h, h.sz.q⟩, h.q, shows_zT _⟩ (shows_zA w' dq) (by show cntT zT ≤ _; decide)))
  unfold argV at HSA
  simp only [zA] at HSA
  have hzz : zA = ⟨false, 0, ⟨#[]⟩, 0, ⟨#[]⟩, ⟨#[]⟩, [], zT⟩ := rfl
  simp only [] at hv ⊢
  rw [hzz]
  generalize sameA ⟨false, an, az, af, ag, ah, aq, zT⟩ ⟨false, 0, ⟨#[]⟩, 0, ⟨#[]⟩, ⟨#[]⟩, [], zT⟩ = S at *
  clear hv hzz hf
  go_enter Tryz.func26, Tryz.ntmps26
  go_upto_region 1 with fail
  rw [HWW.out]
  go_wp2_with fail
  refine (HW.out _).mono ?_
  rintro e w1 ⟨rfl, rfl⟩
  go_wp2_with fail
  refine (HG.out _).mono ?_
  rintro e w1 ⟨rfl, rfl⟩
  go_wp2_with fail
  refine (HC.out _ HB.out.2.1).mono ?_
  rintro e w2 ⟨rfl, hb2⟩
  have hX2 := HB.out.2.2.kept hb2 (Nat.le_refl _)
  have hB2 : Below w.heap.size w w2 := HB.out.2.1.trans (hb2.mono HB.out.2.1.size)
  have HB2 := Lib.hid hB2
  clear f0 f1 f2 f3 f4 f5 f6 f7 f8 f9 f10 f11 p0 p1 p2 p3 p4 p5 p6 p7 p8 p9 p10 p11 hXi hb2 hB2
  have f0 := hX2.fr 0
  have f1 := hX2.fr 1
  have f2 := hX2.fr 2
  have f3 := hX2.fr 3
  have f4 := hX2.fr 4
  have f5 := hX2.fr 5
  have f6 := hX2.fr 6
  have f7 := hX2.fr 7
  have f8 := hX2.fr 8
  have f9 := hX2.fr 9
  have f10 := hX2.fr 10
  have f11 := hX2.fr 11
  obtain ⟨⟨p0, p1, p2⟩, ⟨p3, p4, p5⟩, p6, p7, p8, p9, p10, p11⟩ := hX2.cells
  clear hX2
  go_wp2_with fail
  refine (HSA.out _ (((((HB2.out.setCell (Nat.le_refl _) _).setCell (Nat.le_refl _) _).setCell (Nat.le_refl _) _).setCell (Nat.le_refl _) _).setCell (Nat.le_refl _) _)).mono ?_
  rintro e w3 ⟨rfl, hb3⟩
  have hB3 := (((((HB2.out.setCell (Nat.le_refl _) _).setCell (Nat.le_refl _) _).setCell (Nat.le_refl _) _).setCell (Nat.le_refl _) _).setCell (Nat.le_refl _) _).trans (hb3.mono (((((HB2.out.setCell (Nat.le_refl _) _).setCell (Nat.le_refl _) _).setCell (Nat.le_refl _) _).setCell (Nat.le_refl _) _).setCell (Nat.le_refl _) _).size)
  go_wp2_with fail
  go_ret
  exact ⟨rfl, hB3⟩
 ·
  have HC := HC0
  clear HC0
  have hq : (((checkT av : Nat) : Int) == 0) = false := by rw [beq_eq_false_iff_ne]; omega
  have hv := validB_fit (k := 118) (a := ⟨true, an, az, af, ag, ah, aq, av⟩) (fun c => hf ((fit_v _).1 c))
  rw [hv]
  clear hv hf
  go_enter Tryz.func26, Tryz.ntmps26
  go_upto_region 1 with fail
  rw [HWW.out]
  go_wp2_with fail
  refine (HW.out _).mono ?_
  rintro e w1 ⟨rfl, rfl⟩
  go_wp2_with fail
  refine (HG.out _).mono ?_
  rintro e w1 ⟨rfl, rfl⟩
  go_wp2_with fail
  refine (HC.out _ HB.out.2.1).mono ?_
  rintro e w2 ⟨rfl, hb2⟩
  have hX2 := HB.out.2.2.kept hb2 (Nat.le_refl _)
  have hB2 : Below w.heap.size w w2 := HB.out.2.1.trans (hb2.mono HB.out.2.1.size)
  have HB2 := Lib.hid hB2
  clear f0 f1 f2 f3 f4 f5 f6 f7 f8 f9 f10 f11 p0 p1 p2 p3 p4 p5 p6 p7 p8 p9 p10 p11 hXi hb2 hB2
  have f0 := hX2.fr 0
  have f1 := hX2.fr 1
  have f2 := hX2.fr 2
  have f3 := hX2.fr 3
  have f4 := hX2.fr 4
  have f5 := hX2.fr 5
  have f6 := hX2.fr 6
  have f7 := hX2.fr 7
  have f8 := hX2.fr 8
  have f9 := hX2.fr 9
  have f10 := hX2.fr 10
  have f11 := hX2.fr 11
  obtain ⟨⟨p0, p1, p2⟩, ⟨p3, p4, p5⟩, p6, p7, p8, p9, p10, p11⟩ := hX2.cells
  clear hX2
  go_wp2_with fail
  go_ret
  exact ⟨rfl, (((((HB2.out.setCell (Nat.le_refl _) _).setCell (Nat.le_refl _) _).setCell (Nat.le_refl _) _).setCell (Nat.le_refl _) _).setCell (Nat.le_refl _) _)⟩
theorem misValid_any (k : Nat) (a : ArgP) (A : Option Addr) (c dq : Nat) (v0 v1 v2 v3 v4 : Value) (w : World) (hk : lett k) (h : ShowsA w a A c dq v0 v1 v2 v3 v4) (hc : cntT a.v ≤ 1000000) :
  Calls Tryz.prog 26 #[.int .u8 k, argV a (.slice A a.q.length c) v0 v1 v2 v3 v4] w fun e w' => e = .returned (.bool (validB k a)) ∧ Below w.heap.size w w' := by
 by_cases h98 : k = 98
 ·subst h98
  exact valid_98 a A c dq v0 v1 v2 v3 v4 w h hc
 cases hi : a.is with
 | false => exact valid_none k a A c v0 v1 v2 v3 v4 w h98 hi
 | true =>
  rcases hk with rfl | (rfl | rfl | rfl) | (rfl | rfl) | rfl | rfl | rfl
  ·exact absurd rfl h98
  ·exact valid_110 a A c dq v0 v1 v2 v3 v4 w h hc hi
  ·exact valid_119 a A c dq v0 v1 v2 v3 v4 w h hc hi
  ·exact valid_100 a A c dq v0 v1 v2 v3 v4 w h hc hi
  ·exact valid_115 a A c dq v0 v1 v2 v3 v4 w h hc hi
  ·exact valid_116 a A c dq v0 v1 v2 v3 v4 w h hc hi
  ·exact valid_120 a A c dq v0 v1 v2 v3 v4 w h hc hi
  ·exact valid_114 a A c dq v0 v1 v2 v3 v4 w h hc hi
  ·exact valid_118 a A c dq v0 v1 v2 v3 v4 w h hc hi
end Go.Proofs.YtpbdnfonflmncaaGreat
