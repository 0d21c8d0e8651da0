/-
  The contract of method.encoded: an argument's bytes.
  Conditions: none but sizes.
-/
import Derived.Test.YtpbdnfonflmncaaGreatMeEZ
import Derived.Test.YtpbdnfonflmncaaGreatXiOZ
import Derived.Test.YtpbdnfonflmncaaGreatSpAZ
import Derived.Test.YtpbdnfonflmncaaGreatValDZ
namespace Go.Proofs.YtpbdnfonflmncaaGreat
open Go.RowKit
set_option linter.unusedVariables false
set_option linter.unusedSimpArgs false
theorem mput1_nil (n : Nat) (w : World) : Calls Tryz.prog 18 #[.slice none 0 0, .int .u64 n, .int .i64 1] w fun e w' => ∃ v', e = .returned v' ∧ Own 5 w' w.heap.size v' (be 1 n) ∧ Below w.heap.size w w' := put_any (.slice none 0 0) [] 0 n 1 w (Shows.nil_ _ _) (by simp)
theorem mput2_nil (n : Nat) (w : World) : Calls Tryz.prog 18 #[.slice none 0 0, .int .u64 n, .int .i64 2] w fun e w' => ∃ v', e = .returned v' ∧ Own 5 w' w.heap.size v' (be 2 n) ∧ Below w.heap.size w w' := put_any (.slice none 0 0) [] 0 n 2 w (Shows.nil_ _ _) (by simp)
theorem mput4_nil (n : Nat) (w : World) : Calls Tryz.prog 18 #[.slice none 0 0, .int .u64 n, .int .i64 4] w fun e w' => ∃ v', e = .returned v' ∧ Own 5 w' w.heap.size v' (be 4 n) ∧ Below w.heap.size w w' := put_any (.slice none 0 0) [] 0 n 4 w (Shows.nil_ _ _) (by simp)
def EncA (k : Nat) (a : ArgP) (w : World) (e : Ending) (w' : World) : Prop := ∃ v, e = .returned v ∧ Own 5 w' w.heap.size v (encA k a) ∧ Below w.heap.size w w'
set_option maxRecDepth 100000 in
set_option maxHeartbeats 4000000 in
theorem enc_110 (a : ArgP) (A : Option Addr) (c dq : Nat) (v0 v1 v2 v3 v4 : Value) (w : World) (h : ShowsA w a A c dq v0 v1 v2 v3 v4) (hv : validA 110 a) :
    Calls Tryz.prog 22 #[.int .u8 (110 : Nat), argV a (.slice A a.q.length c) v0 v1 v2 v3 v4] w (EncA 110 a w) := by
  have hX := BoxG.new w a (.slice A a.q.length c) v0 v1 v2 v3 v4
  have hb0 : Below w.heap.size w (w.alloc (Obj.cells #[.bool a.is, .int .u64 a.n, .string a.s, .int .u32 a.f, .string a.g, .string a.h, .slice A a.q.length c, v0, v1, v2, v3, v4] 52)) := below_box w _
  have HS := Lib.hid (fun w' (hb : Below w.heap.size w w') => h.kept hb (Nat.le_refl _))
  have hsz := h.sz
  have hfit := hv.2.1
  have he : encA 110 a = be 1 a.n := by unfold encA; rw [if_pos (by decide)]; rfl
  unfold argV EncA
  rw [he]
  clear he hfit hv h hsz
  obtain ⟨ai, an, az, af, ag, ah, aq, av⟩ := a
  simp only [] at *
  generalize hW : w.alloc (Obj.cells #[.bool ai, .int .u64 an, .string az, .int .u32 af, .string ag, .string ah, .slice A aq.length c, v0, v1, v2, v3, v4] 52) = W at *
  have HWW := Lib.hid hW
  obtain ⟨⟨p0, p1, p2⟩, ⟨p3, p4, p5⟩, p6, p7, p8, p9, p10, p11⟩ := hX.cells
  simp only [] at p0 p1 p2 p3 p4 p5
  have HB := Lib.hid hb0
  have HKEEP := Lib.hid (fun w' (hb : Below W.heap.size W w') => show w'.cell? ⟨w.heap.size, 1, none⟩ = some (.int .u64 an) from (hX.kept hb (Nat.le_refl _)).cells.1.2.1)
  have HNX := Lib.hid (fun w' w'' (hb' : Below w'.heap.size w' w'') (hb : Below W.heap.size W w') => hb.trans (hb'.mono hb.size))
  have hbd : Below W.heap.size W W.drew := below_drew1 (Below.refl _ _)
  have HWD := Lib.hid (fun w => (show Calls Tryz.prog 36 #[.int .u8 (110 : Nat)] w fun e w' => e = .returned (.int .i64 1) ∧ Below w.heap.size w w' from (width_any 110 w).mono fun e w' ⟨h1, h2⟩ => ⟨h1, by rw [h2]; exact Below.refl _ _⟩))
  have HP := Lib.hid (fun w => mput1_nil an w)
  clear hX hb0 hW p0 p1 p2 p3 p4 p5 p6 p7 p8 p9 p10 p11
  go_enter Tryz.func22, Tryz.ntmps22
  go_upto_region 6 with fail
  rw [HWW.out]
  go_region_held3 (fun w' => w'.cell? ⟨w.heap.size, 1, none⟩ = some (.int .u64 an)) (exact HKEEP.out _ (by assumption))
    (first
      | (go_at_call 36
         refine (HWD.out _).mono ?_
         rintro e w5 ⟨rfl, hb5⟩
         have hb5' := HNX.out _ _ hb5 (by assumption))
      | (go_at_call 18
         refine (HP.out _).mono ?_
         rintro e w6 ⟨v6, rfl, ho6, hb6⟩
         have hb6' := HNX.out _ _ hb6 (by assumption)))
  simp only [Exit.inBlock, Exit.then, Exit.noGoto]
  go_wp2_with fail
  go_ret
  exact ⟨_, rfl, ho6.mono (by have := hb5'.size; have := HB.out.size; omega), HB.out.trans (hb6'.mono HB.out.size)⟩
set_option maxRecDepth 100000 in
set_option maxHeartbeats 4000000 in
theorem enc_119 (a : ArgP) (A : Option Addr) (c dq : Nat) (v0 v1 v2 v3 v4 : Value) (w : World) (h : ShowsA w a A c dq v0 v1 v2 v3 v4) (hv : validA 119 a) :
    Calls Tryz.prog 22 #[.int .u8 (119 : Nat), argV a (.slice A a.q.length c) v0 v1 v2 v3 v4] w (EncA 119 a w) := by
  have hX := BoxG.new w a (.slice A a.q.length c) v0 v1 v2 v3 v4
  have hb0 : Below w.heap.size w (w.alloc (Obj.cells #[.bool a.is, .int .u64 a.n, .string a.s, .int .u32 a.f, .string a.g, .string a.h, .slice A a.q.length c, v0, v1, v2, v3, v4] 52)) := below_box w _
  have HS := Lib.hid (fun w' (hb : Below w.heap.size w w') => h.kept hb (Nat.le_refl _))
  have hsz := h.sz
  have hfit := hv.2.1
  have he : encA 119 a = be 2 a.n := by unfold encA; rw [if_pos (by decide)]; rfl
  unfold argV EncA
  rw [he]
  clear he hfit hv h hsz
  obtain ⟨ai, an, az, af, ag, ah, aq, av⟩ := a
  simp only [] at *
  generalize hW : w.alloc (Obj.cells #[.bool ai, .int .u64 an, .string az, .int .u32 af, .string ag, .string ah, .slice A aq.length c, v0, v1, v2, v3, v4] 52) = W at *
  have HWW := Lib.hid hW
  obtain ⟨⟨p0, p1, p2⟩, ⟨p3, p4, p5⟩, p6, p7, p8, p9, p10, p11⟩ := hX.cells
  simp only [] at p0 p1 p2 p3 p4 p5
  have HB := Lib.hid hb0
  have HKEEP := Lib.hid (fun w' (hb : Below W.heap.size W w') => show w'.cell? ⟨w.heap.size, 1, none⟩ = some (.int .u64 an) from (hX.kept hb (Nat.le_refl _)).cells.1.2.1)
  have HNX := Lib.hid (fun w' w'' (hb' : Below w'.heap.size w' w'') (hb : Below W.heap.size W w') => hb.trans (hb'.mono hb.size))
  have hbd : Below W.heap.size W W.drew := below_drew1 (Below.refl _ _)
  have HWD := Lib.hid (fun w => (show Calls Tryz.prog 36 #[.int .u8 (119 : Nat)] w fun e w' => e = .returned (.int .i64 2) ∧ Below w.heap.size w w' from (width_any 119 w).mono fun e w' ⟨h1, h2⟩ => ⟨h1, by rw [h2]; exact Below.refl _ _⟩))
  have HP := Lib.hid (fun w => mput2_nil an w)
  clear hX hb0 hW p0 p1 p2 p3 p4 p5 p6 p7 p8 p9 p10 p11
  go_enter Tryz.func22, Tryz.ntmps22
  go_upto_region 6 with fail
  rw [HWW.out]
  go_region_held3 (fun w' => w'.cell? ⟨w.heap.size, 1, none⟩ = some (.int .u64 an)) (exact HKEEP.out _ (by assumption))
    (first
      | (go_at_call 36
         refine (HWD.out _).mono ?_
         rintro e w5 ⟨rfl, hb5⟩
         have hb5' := HNX.out _ _ hb5 (by assumption))
      | (go_at_call 18
         refine (HP.out _).mono ?_
         rintro e w6 ⟨v6, rfl, ho6, hb6⟩
         have hb6' := HNX.out _ _ hb6 (by assumption)))
  simp only [Exit.inBlock, Exit.then, Exit.noGoto]
  go_wp2_with fail
  go_ret
  exact ⟨_, rfl, ho6.mono (by have := hb5'.size; have := HB.out.size; omega), HB.out.trans (hb6'.mono HB.out.size)⟩
set_option maxRecDepth 100000 in
set_option maxHeartbeats 4000000 in
theorem enc_100 (a : ArgP) (A : Option Addr) (c dq : Nat) (v0 v1 v2 v3 v4 : Value) (w : World) (h : ShowsA w a A c dq v0 v1 v2 v3 v4) (hv : validA 100 a) :
    Calls Tryz.prog 22 #[.int .u8 (100 : Nat), argV a (.slice A a.q.length c) v0 v1 v2 v3 v4] w (EncA 100 a w) := by
  have hX := BoxG.new w a (.slice A a.q.length c) v0 v1 v2 v3 v4
  have hb0 : Below w.heap.size w (w.alloc (Obj.cells #[.bool a.is, .int .u64 a.n, .string a.s, .int .u32 a.f, .string a.g, .string a.h, .slice A a.q.length c, v0, v1, v2, v3, v4] 52)) := below_box w _
  have HS := Lib.hid (fun w' (hb : Below w.heap.size w w') => h.kept hb (Nat.le_refl _))
  have hsz := h.sz
  have hfit := hv.2.1
  have he : encA 100 a = be 4 a.n := by unfold encA; rw [if_pos (by decide)]; rfl
  unfold argV EncA
  rw [he]
  clear he hfit hv h hsz
  obtain ⟨ai, an, az, af, ag, ah, aq, av⟩ := a
  simp only [] at *
  generalize hW : w.alloc (Obj.cells #[.bool ai, .int .u64 an, .string az, .int .u32 af, .string ag, .string ah, .slice A aq.length c, v0, v1, v2, v3, v4] 52) = W at *
  have HWW := Lib.hid hW
  obtain ⟨⟨p0, p1, p2⟩, ⟨p3, p4, p5⟩, p6, p7, p8, p9, p10, p11⟩ := hX.cells
  simp only [] at p0 p1 p2 p3 p4 p5
  have HB := Lib.hid hb0
  have HKEEP := Lib.hid (fun w' (hb : Below W.heap.size W w') => show w'.cell? ⟨w.heap.size, 1, none⟩ = some (.int .u64 an) from (hX.kept hb (Nat.le_refl _)).cells.1.2.1)
  have HNX := Lib.hid (fun w' w'' (hb' : Below w'.heap.size w' w'') (hb : Below W.heap.size W w') => hb.trans (hb'.mono hb.size))
  have hbd : Below W.heap.size W W.drew := below_drew1 (Below.refl _ _)
  have HWD := Lib.hid (fun w => (show Calls Tryz.prog 36 #[.int .u8 (100 : Nat)] w fun e w' => e = .returned (.int .i64 4) ∧ Below w.heap.size w w' from (width_any 100 w).mono fun e w' ⟨h1, h2⟩ => ⟨h1, by rw [h2]; exact Below.refl _ _⟩))
  have HP := Lib.hid (fun w => mput4_nil an w)
  clear hX hb0 hW p0 p1 p2 p3 p4 p5 p6 p7 p8 p9 p10 p11
  go_enter Tryz.func22, Tryz.ntmps22
  go_upto_region 6 with fail
  rw [HWW.out]
  go_region_held3 (fun w' => w'.cell? ⟨w.heap.size, 1, none⟩ = some (.int .u64 an)) (exact HKEEP.out _ (by assumption))
    (first
      | (go_at_call 36
         refine (HWD.out _).mono ?_
         rintro e w5 ⟨rfl, hb5⟩
         have hb5' := HNX.out _ _ hb5 (by assumption))
      | (go_at_call 18
         refine (HP.out _).mono ?_
         rintro e w6 ⟨v6, rfl, ho6, hb6⟩
         have hb6' := HNX.out _ _ hb6 (by assumption)))
  simp only [Exit.inBlock, Exit.then, Exit.noGoto]
  go_wp2_with fail
  go_ret
  exact ⟨_, rfl, ho6.mono (by have := hb5'.size; have := HB.out.size; omega), HB.out.trans (hb6'.mono HB.out.size)⟩
set_option maxRecDepth 100000 in
set_option maxHeartbeats 4000000 in
theorem enc_115 (a : ArgP) (A : Option Addr) (c dq : Nat) (v0 v1 v2 v3 v4 : Value) (w : World) (h : ShowsA w a A c dq v0 v1 v2 v3 v4) (hv : validA 115 a) :
    Calls Tryz.prog 22 #[.int .u8 (115 : Nat), argV a (.slice A a.q.length c) v0 v1 v2 v3 v4] w (EncA 115 a w) := by
  have hX := BoxG.new w a (.slice A a.q.length c) v0 v1 v2 v3 v4
  have hb0 : Below w.heap.size w (w.alloc (Obj.cells #[.bool a.is, .int .u64 a.n, .string a.s, .int .u32 a.f, .string a.g, .string a.h, .slice A a.q.length c, v0, v1, v2, v3, v4] 52)) := below_box w _
  have HS := Lib.hid (fun w' (hb : Below w.heap.size w w') => h.kept hb (Nat.le_refl _))
  have hsz := h.sz
  have hfit := hv.2.1
  have hs := (fit_txt a (show isTxt 115 by decide)).1 hfit
  have hs' : a.s.size < 256 := hs
  have he : encA 115 a = be 1 a.s.size ++ sb a.s := by unfold encA; rw [if_neg (by decide), if_pos (by decide)]; rfl
  have HP := Lib.hid (fun w => putText_ok1 (.slice none 0 0) [] 0 a.s w (Shows.nil_ _ _) (by simp; omega) hs')
  unfold argV EncA
  rw [he]
  clear he hfit hv h hs hs' hsz
  obtain ⟨ai, an, az, af, ag, ah, aq, av⟩ := a
  simp only [] at *
  generalize hW : w.alloc (Obj.cells #[.bool ai, .int .u64 an, .string az, .int .u32 af, .string ag, .string ah, .slice A aq.length c, v0, v1, v2, v3, v4] 52) = W at *
  have HWW := Lib.hid hW
  obtain ⟨⟨p0, p1, p2⟩, ⟨p3, p4, p5⟩, p6, p7, p8, p9, p10, p11⟩ := hX.cells
  simp only [] at p0 p1 p2 p3 p4 p5
  have HB := Lib.hid hb0
  have HKEEP := Lib.hid (fun w' (hb : Below W.heap.size W w') => show w'.cell? ⟨w.heap.size, 2, none⟩ = some (.string az) from (hX.kept hb (Nat.le_refl _)).cells.1.2.2)
  have HNX := Lib.hid (fun w' w'' (hb' : Below w'.heap.size w' w'') (hb : Below W.heap.size W w') => hb.trans (hb'.mono hb.size))
  have hbd : Below W.heap.size W W.drew := below_drew1 (Below.refl _ _)
  have HWD := Lib.hid (fun w => (show Calls Tryz.prog 36 #[.int .u8 (115 : Nat)] w fun e w' => e = .returned (.int .i64 1) ∧ Below w.heap.size w w' from (width_any 115 w).mono fun e w' ⟨h1, h2⟩ => ⟨h1, by rw [h2]; exact Below.refl _ _⟩))
  clear hX hb0 hW p0 p1 p2 p3 p4 p5 p6 p7 p8 p9 p10 p11
  go_enter Tryz.func22, Tryz.ntmps22
  go_upto_region 9 with fail
  rw [HWW.out]
  go_region_held3 (fun w' => w'.cell? ⟨w.heap.size, 2, none⟩ = some (.string az)) (exact HKEEP.out _ (by assumption))
    (first
      | (go_at_call 36
         refine (HWD.out _).mono ?_
         rintro e w5 ⟨rfl, hb5⟩
         have hb5' := HNX.out _ _ hb5 (by assumption))
      | (go_at_call 37
         refine (HP.out _).mono ?_
         rintro e w6 ⟨v6, rfl, ho6, hb6⟩
         have hb6' := HNX.out _ _ hb6 (by assumption)))
  simp only [Exit.inBlock, Exit.then, Exit.noGoto]
  go_wp2_with fail
  go_ret
  exact ⟨_, rfl, ho6.mono (by have := hb5'.size; have := HB.out.size; omega), HB.out.trans (hb6'.mono HB.out.size)⟩
set_option maxRecDepth 100000 in
set_option maxHeartbeats 4000000 in
theorem enc_116 (a : ArgP) (A : Option Addr) (c dq : Nat) (v0 v1 v2 v3 v4 : Value) (w : World) (h : ShowsA w a A c dq v0 v1 v2 v3 v4) (hv : validA 116 a) :
    Calls Tryz.prog 22 #[.int .u8 (116 : Nat), argV a (.slice A a.q.length c) v0 v1 v2 v3 v4] w (EncA 116 a w) := by
  have hX := BoxG.new w a (.slice A a.q.length c) v0 v1 v2 v3 v4
  have hb0 : Below w.heap.size w (w.alloc (Obj.cells #[.bool a.is, .int .u64 a.n, .string a.s, .int .u32 a.f, .string a.g, .string a.h, .slice A a.q.length c, v0, v1, v2, v3, v4] 52)) := below_box w _
  have HS := Lib.hid (fun w' (hb : Below w.heap.size w w') => h.kept hb (Nat.le_refl _))
  have hsz := h.sz
  have hfit := hv.2.1
  have hs := (fit_txt a (show isTxt 116 by decide)).1 hfit
  have hs' : a.s.size < 65536 := hs
  have he : encA 116 a = be 2 a.s.size ++ sb a.s := by unfold encA; rw [if_neg (by decide), if_pos (by decide)]; rfl
  have HP := Lib.hid (fun w => putText_ok2 (.slice none 0 0) [] 0 a.s w (Shows.nil_ _ _) (by simp; omega) hs')
  unfold argV EncA
  rw [he]
  clear he hfit hv h hs hs' hsz
  obtain ⟨ai, an, az, af, ag, ah, aq, av⟩ := a
  simp only [] at *
  generalize hW : w.alloc (Obj.cells #[.bool ai, .int .u64 an, .string az, .int .u32 af, .string ag, .string ah, .slice A aq.length c, v0, v1, v2, v3, v4] 52) = W at *
  have HWW := Lib.hid hW
  obtain ⟨⟨p0, p1, p2⟩, ⟨p3, p4, p5⟩, p6, p7, p8, p9, p10, p11⟩ := hX.cells
  simp only [] at p0 p1 p2 p3 p4 p5
  have HB := Lib.hid hb0
  have HKEEP := Lib.hid (fun w' (hb : Below W.heap.size W w') => show w'.cell? ⟨w.heap.size, 2, none⟩ = some (.string az) from (hX.kept hb (Nat.le_refl _)).cells.1.2.2)
  have HNX := Lib.hid (fun w' w'' (hb' : Below w'.heap.size w' w'') (hb : Below W.heap.size W w') => hb.trans (hb'.mono hb.size))
  have hbd : Below W.heap.size W W.drew := below_drew1 (Below.refl _ _)
  have HWD := Lib.hid (fun w => (show Calls Tryz.prog 36 #[.int .u8 (116 : Nat)] w fun e w' => e = .returned (.int .i64 2) ∧ Below w.heap.size w w' from (width_any 116 w).mono fun e w' ⟨h1, h2⟩ => ⟨h1, by rw [h2]; exact Below.refl _ _⟩))
  clear hX hb0 hW p0 p1 p2 p3 p4 p5 p6 p7 p8 p9 p10 p11
  go_enter Tryz.func22, Tryz.ntmps22
  go_upto_region 9 with fail
  rw [HWW.out]
  go_region_held3 (fun w' => w'.cell? ⟨w.heap.size, 2, none⟩ = some (.string az)) (exact HKEEP.out _ (by assumption))
    (first
      | (go_at_call 36
         refine (HWD.out _).mono ?_
         rintro e w5 ⟨rfl, hb5⟩
         have hb5' := HNX.out _ _ hb5 (by assumption))
      | (go_at_call 37
         refine (HP.out _).mono ?_
         rintro e w6 ⟨v6, rfl, ho6, hb6⟩
         have hb6' := HNX.out _ _ hb6 (by assumption)))
  simp only [Exit.inBlock, Exit.then, Exit.noGoto]
  go_wp2_with fail
  go_ret
  exact ⟨_, rfl, ho6.mono (by have := hb5'.size; have := HB.out.size; omega), HB.out.trans (hb6'.mono HB.out.size)⟩
set_option maxRecDepth 100000 in
set_option maxHeartbeats 4000000 in
theorem enc_120 (a : ArgP) (A : Option Addr) (c dq : Nat) (v0 v1 v2 v3 v4 : Value) (w : World) (h : ShowsA w a A c dq v0 v1 v2 v3 v4) (hv : validA 120 a) :
  Calls Tryz.prog 22 #[.int .u8 (120 : Nat), argV a (.slice A a.q.length c) v0 v1 v2 v3 v4] w (EncA 120 a w) := by
 have hX := BoxG.new w a (.slice A a.q.length c) v0 v1 v2 v3 v4
 have hb0 : Below w.heap.size w (w.alloc (Obj.cells #[.bool a.is, .int .u64 a.n, .string a.s, .int .u32 a.f, .string a.g, .string a.h, .slice A a.q.length c, v0, v1, v2, v3, v4] 52)) := below_box w _
 have HS := Lib.hid (fun w' (hb : Below w.heap.size w w') => h.kept hb (Nat.le_refl _))
 have hsz := h.sz
 have hfit := hv.2.1
 have hs := (fit_x a).1 hfit
 have he : encA 120 a = encX a.f a.g a.h := by unfold encA; rw [if_neg (by decide), if_neg (by decide), if_pos (by decide)]
 have HP := Lib.hid (fun w => (show Calls Tryz.prog 38 #[.agg #[.int .u32 a.f, .string a.g, .string a.h]] w _ from x_put_ok a.f a.g a.h w hs hsz.f))
 unfold argV EncA
 rw [he]
 clear he hfit hv h hs hsz
 obtain ⟨ai, an, az, af, ag, ah, aq, av⟩ := a
 simp only [] at *
 generalize hW : w.alloc (Obj.cells #[.bool ai, .int .u64 an, .string az, .int .u32 af, .string ag, .string ah, .slice A aq.length c, v0, v1, v2, v3, v4] 52) = W at *
 have HWW := Lib.hid hW
 obtain ⟨⟨p0, p1, p2⟩, ⟨p3, p4, p5⟩, p6, p7, p8, p9, p10, p11⟩ := hX.cells
 simp only [] at p0 p1 p2 p3 p4 p5
 have HB := Lib.hid hb0
 clear hX hb0 hW
 go_enter Tryz.func22, Tryz.ntmps22
 go_upto_region 1 with fail
 rw [HWW.out]
 go_wp2_with fail
 refine (HP.out _).mono ?_
 rintro e w2 ⟨v2, rfl, ho2, hb2⟩
 go_wp2_with fail
 go_ret
 exact ⟨_, rfl, ho2.mono HB.out.size, HB.out.trans (hb2.mono HB.out.size)⟩
set_option maxRecDepth 100000 in
set_option maxHeartbeats 4000000 in
theorem enc_114 (a : ArgP) (A : Option Addr) (c dq : Nat) (v0 v1 v2 v3 v4 : Value) (w : World) (h : ShowsA w a A c dq v0 v1 v2 v3 v4) (hv : validA 114 a) :
  Calls Tryz.prog 22 #[.int .u8 (114 : Nat), argV a (.slice A a.q.length c) v0 v1 v2 v3 v4] w (EncA 114 a w) := by
 have hX := BoxG.new w a (.slice A a.q.length c) v0 v1 v2 v3 v4
 have hb0 : Below w.heap.size w (w.alloc (Obj.cells #[.bool a.is, .int .u64 a.n, .string a.s, .int .u32 a.f, .string a.g, .string a.h, .slice A a.q.length c, v0, v1, v2, v3, v4] 52)) := below_box w _
 have HS := Lib.hid (fun w' (hb : Below w.heap.size w w') => h.kept hb (Nat.le_refl _))
 have hsz := h.sz
 have hfit := hv.2.1
 have hs := (fit_q a).1 hfit
 have he : encA 114 a = encS a.q := by unfold encA; rw [if_neg (by decide), if_neg (by decide), if_neg (by decide), if_pos (by decide)]
 have HP := Lib.hid (fun w' (hb : Below w.heap.size w w') => (show Calls Tryz.prog 39 #[.slice A a.q.length c] w' fun e w'' => ∃ v, e = .returned (.tuple #[v, .int .i64 0]) ∧ Own 5 w'' w'.heap.size v (encS a.q) ∧ Below w'.heap.size w' w'' from
  (putS_any A c a.q.length dq a.q w' rfl (HS.out w' hb).q hsz.u (by have := hsz.q; omega)).mono fun e w'' ⟨v, code, r, h1, h2, h3, h4⟩ => by
   rcases h4 with ⟨_, _, rfl, rfl⟩ | ⟨hn, _⟩ | ⟨_, hn, _⟩
   ·exact ⟨v, h1, h2, h3⟩
   ·exact absurd hs.1 hn
   ·exact absurd hs.2 hn))
 unfold argV EncA
 rw [he]
 clear he hfit hv h hs hsz
 obtain ⟨ai, an, az, af, ag, ah, aq, av⟩ := a
 simp only [] at *
 generalize hW : w.alloc (Obj.cells #[.bool ai, .int .u64 an, .string az, .int .u32 af, .string ag, .string ah, .slice A aq.length c, v0, v1, v2, v3, v4] 52) = W at *
 have HWW := Lib.hid hW
 obtain ⟨⟨p0, p1, p2⟩, ⟨p3, p4, p5⟩, p6, p7, p8, p9, p10, p11⟩ := hX.cells
 simp only [] at p0 p1 p2 p3 p4 p5
 have HB := Lib.hid hb0
 clear hX hb0 hW
 go_enter Tryz.func22, Tryz.ntmps22
 go_upto_region 1 with fail
 rw [HWW.out]
 go_wp2_with fail
 refine (HP.out _ HB.out).mono ?_
 rintro e w2 ⟨v2, rfl, ho2, hb2⟩
 go_wp2_with fail
 go_ret
 exact ⟨_, rfl, ho2.mono HB.out.size, HB.out.trans (hb2.mono HB.out.size)⟩
set_option maxRecDepth 100000 in
set_option maxHeartbeats 4000000 in
theorem enc_118 (a : ArgP) (A : Option Addr) (c dq : Nat) (v0 v1 v2 v3 v4 : Value) (w : World) (h : ShowsA w a A c dq v0 v1 v2 v3 v4) (hv : validA 118 a) :
  Calls Tryz.prog 22 #[.int .u8 (118 : Nat), argV a (.slice A a.q.length c) v0 v1 v2 v3 v4] w (EncA 118 a w) := by
 have hX := BoxG.new w a (.slice A a.q.length c) v0 v1 v2 v3 v4
 have hb0 : Below w.heap.size w (w.alloc (Obj.cells #[.bool a.is, .int .u64 a.n, .string a.s, .int .u32 a.f, .string a.g, .string a.h, .slice A a.q.length c, v0, v1, v2, v3, v4] 52)) := below_box w _
 have HS := Lib.hid (fun w' (hb : Below w.heap.size w w') => h.kept hb (Nat.le_refl _))
 have hsz := h.sz
 have hfit := hv.2.1
 have hs := (fit_v a).1 hfit
 have he : encA 118 a = bytesT a.v := by unfold encA; rw [if_neg (by decide), if_neg (by decide), if_neg (by decide), if_neg (by decide), if_pos (by decide)]
 have HP := Lib.hid (fun w' (hb : Below w.heap.size w w') => (show Calls Tryz.prog 40 #[.agg #[v0, v1, v2, v3, v4]] w' _ from put_ok a.v [v0, v1, v2, v3, v4] w' (HS.out w' hb).v hs))
 unfold argV EncA
 rw [he]
 clear he hfit hv h hs hsz
 obtain ⟨ai, an, az, af, ag, ah, aq, av⟩ := a
 simp only [] at *
 generalize hW : w.alloc (Obj.cells #[.bool ai, .int .u64 an, .string az, .int .u32 af, .string ag, .string ah, .slice A aq.length c, v0, v1, v2, v3, v4] 52) = W at *
 have HWW := Lib.hid hW
 obtain ⟨⟨p0, p1, p2⟩, ⟨p3, p4, p5⟩, p6, p7, p8, p9, p10, p11⟩ := hX.cells
 simp only [] at p0 p1 p2 p3 p4 p5
 have HB := Lib.hid hb0
 clear hX hb0 hW
 go_enter Tryz.func22, Tryz.ntmps22
 go_upto_region 1 with fail
 rw [HWW.out]
 go_wp2_with fail
 refine (HP.out _ HB.out).mono ?_
 rintro e w2 ⟨v2, rfl, ho2, hb2⟩
 go_wp2_with fail
 go_ret
 exact ⟨_, rfl, ho2.mono HB.out.size, HB.out.trans (hb2.mono HB.out.size)⟩
set_option maxRecDepth 100000 in
set_option maxHeartbeats 4000000 in
theorem enc_98 (a : ArgP) (A : Option Addr) (c dq : Nat) (v0 v1 v2 v3 v4 : Value) (w : World) (h : ShowsA w a A c dq v0 v1 v2 v3 v4) (hv : validA 98 a) :
  Calls Tryz.prog 22 #[.int .u8 (98 : Nat), argV a (.slice A a.q.length c) v0 v1 v2 v3 v4] w (EncA 98 a w) := by
 have hX := BoxG.new w a (.slice A a.q.length c) v0 v1 v2 v3 v4
 have hb0 : Below w.heap.size w (w.alloc (Obj.cells #[.bool a.is, .int .u64 a.n, .string a.s, .int .u32 a.f, .string a.g, .string a.h, .slice A a.q.length c, v0, v1, v2, v3, v4] 52)) := below_box w _
 have HS := Lib.hid (fun w' (hb : Below w.heap.size w w') => h.kept hb (Nat.le_refl _))
 have hsz := h.sz
 have hfit := hv.2.1
 have he : encA 98 a = [] := by unfold encA; rw [if_neg (by decide), if_neg (by decide), if_neg (by decide), if_neg (by decide), if_neg (by decide)]
 unfold argV EncA
 rw [he]
 clear he hfit hv h hsz
 obtain ⟨ai, an, az, af, ag, ah, aq, av⟩ := a
 simp only [] at *
 generalize hW : w.alloc (Obj.cells #[.bool ai, .int .u64 an, .string az, .int .u32 af, .string ag, .string ah, .slice A aq.length c, v0, v1, v2, v3, v4] 52) = W at *
 have HWW := Lib.hid hW
 obtain ⟨⟨p0, p1, p2⟩, ⟨p3, p4, p5⟩, p6, p7, p8, p9, p10, p11⟩ := hX.cells
 simp only [] at p0 p1 p2 p3 p4 p5
 have HB := Lib.hid hb0
 clear hX hb0 hW
 go_enter Tryz.func22, Tryz.ntmps22
 go_upto_region 1 with fail
 rw [HWW.out]
 go_wp2_with fail
 go_ret
 exact ⟨_, rfl, Own.nil_ _ _ _, HB.out⟩
theorem encA_any (k : Nat) (a : ArgP) (A : Option Addr) (c dq : Nat) (v0 v1 v2 v3 v4 : Value) (w : World) (hk : lett k) (h : ShowsA w a A c dq v0 v1 v2 v3 v4) (hv : validA k a) :
  Calls Tryz.prog 22 #[.int .u8 k, argV a (.slice A a.q.length c) v0 v1 v2 v3 v4] w (EncA k a w) := by
 rcases hk with rfl | (rfl | rfl | rfl) | (rfl | rfl) | rfl | rfl | rfl
 ·exact enc_98 a A c dq v0 v1 v2 v3 v4 w h hv
 ·exact enc_110 a A c dq v0 v1 v2 v3 v4 w h hv
 ·exact enc_119 a A c dq v0 v1 v2 v3 v4 w h hv
 ·exact enc_100 a A c dq v0 v1 v2 v3 v4 w h hv
 ·exact enc_115 a A c dq v0 v1 v2 v3 v4 w h hv
 ·exact enc_116 a A c dq v0 v1 v2 v3 v4 w h hv
 ·exact enc_120 a A c dq v0 v1 v2 v3 v4 w h hv
 ·exact enc_114 a A c dq v0 v1 v2 v3 v4 w h hv
 ·exact enc_118 a A c dq v0 v1 v2 v3 v4 w h hv
end Go.Proofs.YtpbdnfonflmncaaGreat
