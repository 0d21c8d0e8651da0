/-
  Texts, together: Ref04E, TxC, TxD, TxE.
  Conditions: none but sizes.
-/
import Derived.Deep.RegionLaw
import Derived.Laws.BitsAllLaws
import Derived.Test.YtdjahdnaihijjaaGreatDoorRef04AZ
import Derived.Shelf.Strconv.AppendUint10
import Derived.Test.YtdjahdnaihijjaaGreatDoorXiOZ
import Derived.Test.YtdjahdnaihijjaaGreatDoorLayAZ
/-
  The contract of the document's Text of names.
  Conditions: none but sizes.
-/
namespace Go.Proofs.YtdjahdnaihijjaaGreatDoor
open Go.RowKit
set_option linter.unusedVariables false
set_option linter.unusedSimpArgs false

/-- A name's text. -/
def textX (f : Nat) (g h : ByteArray) : List UInt8 := digD f ++ [46] ++ hexD (sb g) ++ [46] ++ hexD (sb h)

end Go.Proofs.YtdjahdnaihijjaaGreatDoor
/-
  The contract of strconv.AppendUint at base 10, of small numbers.
  Conditions: numbers below 100.
-/
namespace Go.Proofs.YtdjahdnaihijjaaGreatDoor
open Go.RowKit
set_option linter.unusedVariables false
set_option linter.unusedSimpArgs false

theorem digD_dec (u : Nat) : Lib.decDigits u = digD u := by
  induction u using Nat.strongRecOn with
  | ind u ih =>
    by_cases h : u < 10
    · rw [Lib.decDigits_one h, digD_small h]
    · rw [Lib.decDigits, dif_neg h, digD_step (by omega), ih (u / 10) (by omega)]

theorem appendUint_in (u : Nat) (w : World) (hu : u < 100) :
    Calls Tryz.prog 68 #[.slice none 0 0, .int .u64 u, .int .i64 10] w fun e w' => ∃ v', e = .returned v' ∧ Own 5 w' w.heap.size v' (digD u) ∧ Below w.heap.size w w' := by
  have hn : w.ownsRow w.heap.size 5 1 (.slice none 0 0) 0 [] := World.ownsRow_nil w _ _ _
  rw [← digD_dec]
  refine (Any.internal_strconv_AppendUint_10_small lays288 w.heap.size 0 u hu _ [] w hn (Nat.le_refl _) (by omega)).mono ?_
  rintro e w' ⟨v', rfl, ho, hb, _⟩
  refine ⟨v', rfl, ?_, hb⟩
  rw [Nat.zero_add, List.nil_append] at ho
  exact ho

theorem appendUint_any (u : Nat) (w : World) (hu : u < 100) :
    Calls Tryz.prog 46 #[.slice none 0 0, .int .u64 u, .int .i64 10] w fun e w' => ∃ v', e = .returned v' ∧ Own 5 w' w.heap.size v' (digD u) ∧ Below w.heap.size w w' := by
  have h := Lib.hid (appendUint_in u w hu)
  clear hu
  go_enter Tryz.func46, Tryz.ntmps46
  go_wp2_with fail
  refine h.out.mono ?_
  rintro e w' ⟨v', rfl, ho, hb⟩
  go_wp2_with fail
  go_ret
  exact ⟨v', rfl, ho, hb⟩

end Go.Proofs.YtdjahdnaihijjaaGreatDoor
/-
  The contract of xid's appendHex.
  Conditions: none but sizes.
-/
namespace Go.Proofs.YtdjahdnaihijjaaGreatDoor
open Go.RowKit
set_option linter.unusedVariables false
set_option linter.unusedSimpArgs false

/-- The signs. -/
def signs : ByteArray := { data := #[48, 49, 50, 51, 52, 53, 54, 55, 56, 57, 97, 98, 99, 100, 101, 102] }
theorem signs_at (k : Nat) (h : k < signs.size) : (signs[k]'h).toNat = signD k := by
  have h2 : k < 16 := h
  have : ∀ j : Fin 16, (signs[j.val]'j.isLt).toNat = signD j.val := by decide
  exact this ⟨k, h2⟩
theorem lit_signs (a b : Nat) (ha : a < signs.size) (hb : b < signs.size) :
    (#[Value.int .u8 ((signs[a]'ha).toNat : Nat), Value.int .u8 ((signs[b]'hb).toNat : Nat)] : Array Value) = (bs [UInt8.ofNat (signD a), UInt8.ofNat (signD b)]).toArray := by
  rw [signs_at, signs_at]
  exact lit2 _ _ (signD_lt a ha) (signD_lt b hb)

set_option maxRecDepth 100000 in
theorem appendHex_any (base : Nat) (v0 : Value) (l : List UInt8) (s : ByteArray) (w : World) (ho0 : Own 5 w base v0 l) (hs : s.size ≤ 1000) (hl0 : l.length ≤ 1000) (hb0 : base ≤ w.heap.size) :
    Calls Tryz.prog 47 #[v0, .string s] w fun e w' => ∃ v, e = .returned v ∧ Own 5 w' base v (l ++ hexD (sb s)) ∧ Below base w w' := by
  go_enter Tryz.func47, Tryz.ntmps47
  go_wp2_with fail
  go_loopw [0, 8] (fun v i wr => ∃ k : Nat, k ≤ s.size ∧ i = .int .i64 k ∧ Own 5 wr base v (l ++ hexD ((sb s).take k)) ∧ base ≤ wr.heap.size ∧ Below base w wr) (fun _ i _ => s.size - (intOf i).toNat)
  case atStart => exact ⟨0, by omega, rfl, by simpa [hexD] using ho0, hb0, Below.refl _ _⟩
  case round =>
    obtain ⟨k, hk, rfl, ho, hz, hbw⟩ := hrel
    by_cases h1 : k < s.size
    · have b1 : (k : Int) < (s.size : Int) := by omega
      have hx := s[k].toNat_lt
      have hst : hexD ((sb s).take (k + 1)) = hexD ((sb s).take k) ++ [UInt8.ofNat (signD (s[k].toNat / 16)), UInt8.ofNat (signD (s[k].toNat % 16))] := by
        rw [List.take_succ_eq_append_getElem (by rw [sb_length]; exact h1), hexD_snoc]
        rfl
      have hjl : (hexD ((sb s).take k)).length = 2 * k := by rw [hexD_length]; simp [sb_length]; omega
      have hq0 : (0 : Int) ≤ IntKind.u8.wrap ((s[k].toNat : Int) / 16) := by rw [IntKind.wrap_u8]; omega
      have hq1 : IntKind.u8.wrap ((s[k].toNat : Int) / 16) < 16 := by rw [IntKind.wrap_u8]; omega
      have hr0 : (0 : Int) ≤ (s[k].toNat : Int).tmod 16 := by rw [Int.tmod_eq_emod_of_nonneg (by omega)]; omega
      have hr1 : (s[k].toNat : Int).tmod 16 < 16 := by rw [Int.tmod_eq_emod_of_nonneg (by omega)]; omega
      have p1 : (IntKind.u8.wrap ((s[k].toNat : Int) / 16)).toNat < signs.size := by show _ < 16; omega
      have p2 : ((s[k].toNat : Int).tmod 16).toNat < signs.size := by show _ < 16; omega
      have e1 : (IntKind.u8.wrap ((s[k].toNat : Int) / 16)).toNat = s[k].toNat / 16 := by rw [IntKind.wrap_u8]; omega
      have e2 : ((s[k].toNat : Int).tmod 16).toNat = s[k].toNat % 16 := by rw [Int.tmod_eq_emod_of_nonneg (by omega)]; omega
      have HST := Lib.hid hst
      have HJL := Lib.hid hjl
      have HL := Lib.hid (lit_signs (IntKind.u8.wrap ((s[k].toNat : Int) / 16)).toNat ((s[k].toNat : Int).tmod 16).toNat p1 p2)
      rw [show bs [UInt8.ofNat (signD (IntKind.u8.wrap ((s[k].toNat : Int) / 16)).toNat), UInt8.ofNat (signD ((s[k].toNat : Int).tmod 16).toNat)] = bs [UInt8.ofNat (signD (s[k].toNat / 16)), UInt8.ofNat (signD (s[k].toNat % 16))] by rw [e1, e2]] at HL
      clear hst hjl e1 e2
      generalize hrow : hexD ((sb s).take k) = row at *
      clear hrow
      have HO := Lib.hid (show ∀ q o, Own 5 ((wr.drewN q).alloc o) base u0 (l ++ row) from fun q o => ho.alloc8 o)
      generalize UInt8.ofNat (signD (s[k].toNat / 16)) = dx at *
      generalize UInt8.ofNat (signD (s[k].toNat % 16)) = dy at *
      go_wp2_with fail
      go_region_law
        (refine step_append8 _ rfl (.tmp 11) (.tmp 22) 47 rfl base 5 Tryz.underlying47 info5 _ (l ++ row) rfl (HO.out _ _) wr.heap.size _ [dx, dy] rfl (Shows.lit (w := wr) [dx, dy] HL.out (by simp [maxLen])) (by rw [List.length_append, HJL.out]; simp; omega) (by simp; omega) ?_
         intro v6 w6 ho6 hg6)
      all_goals
        have hb6 : Below base w w6 := ((below_drewN hbw _).alloc hz _).grown hg6 (by simp; omega) (fun q hq => (ho.block q hq).1)
        have hz6 := hg6.size
        go_wp2_with fail
        go_roundw
        case rel => exact ⟨k + 1, by omega, by go_num, by rw [HST.out, ← List.append_assoc]; exact ho6, by simp at hz6; omega, hb6⟩
        case measure => simp [intOf]; omega
    · obtain rfl : k = s.size := by omega
      rw [List.take_of_length_le (by rw [sb_length]; exact Nat.le_refl _)] at ho
      go_wp2_with fail
      go_ret
      exact ⟨u0, rfl, ho, hbw⟩

end Go.Proofs.YtdjahdnaihijjaaGreatDoor
/-
  The contract of xid's Text.
  Conditions: none but sizes; the table of powers of ten reads as the library's own text lays it.
-/
namespace Go.Proofs.YtdjahdnaihijjaaGreatDoor
open Go.RowKit
set_option linter.unusedVariables false
set_option linter.unusedSimpArgs false

theorem text_no (f : Nat) (g h : ByteArray) (w : World) (hm : ¬ mayX g h) (hg : g.size ≤ 140737488355328) (hh : h.size ≤ 140737488355328) :
    Calls Tryz.prog 22 #[xidV f g h] w fun e w' => e = .returned (.tuple #[.string ByteArray.empty, .int .i64 40]) ∧ Below w.heap.size w w' := by
  have hck := Lib.hid (fun w => check_no f g h w hm hg hh)
  unfold xidV at *
  clear hm
  go_enter Tryz.func22, Tryz.ntmps22
  go_wp2_with fail
  refine (hck.out _).mono ?_
  rintro e w1 ⟨rfl, hb1⟩
  go_wp2_with fail
  go_ret2
  exact ⟨rfl, (below_box w _).trans (hb1.mono (by simp))⟩

set_option maxHeartbeats 2000000 in
set_option maxRecDepth 100000 in
theorem text_ok (f : Nat) (g h : ByteArray) (w : World) (hm : mayX g h) (hf : f < 100) :
    Calls Tryz.prog 22 #[xidV f g h] w fun e w' => e = .returned (.tuple #[.string (str8 (textX f g h)), .int .i64 0]) ∧ Below w.heap.size w w' := by
  have hck := Lib.hid (fun w => x_check_ok f g h w hm)
  have hnum := Lib.hid (fun w => appendUint_any f w hf)
  obtain ⟨m1, m2, m3⟩ := hm
  have sD : (digD f).length ≤ 20 := digD_length 19 f (by simp; omega)
  have sG : (hexD (sb g)).length = 2 * g.size := by rw [hexD_length, sb_length]
  have hx1 := Lib.hid (fun base v l w (ho : Own 5 w base v l) (hl : l.length ≤ 1000) (hb : base ≤ w.heap.size) => appendHex_any base v l g w ho (by omega) hl hb)
  have hx2 := Lib.hid (fun base v l w (ho : Own 5 w base v l) (hl : l.length ≤ 1000) (hb : base ≤ w.heap.size) => appendHex_any base v l h w ho (by omega) hl hb)
  have HE := Lib.hid (show textX f g h = digD f ++ [46] ++ hexD (sb g) ++ [46] ++ hexD (sb h) from rfl)
  have wf : IntKind.u64.wrap (f : Int) = (f : Int) := by rw [IntKind.wrap_u64]; omega
  unfold xidV at *
  generalize textX f g h = T at *
  generalize digD f = D at *
  generalize hexD (sb g) = G at *
  generalize hexD (sb h) = H at *
  have SG := Lib.hid sG
  clear sG
  have HW := Lib.hid wf
  clear wf
  go_enter Tryz.func22, Tryz.ntmps22
  go_wp2_with fail
  refine (hck.out _).mono ?_
  rintro e w1 ⟨rfl, hb1⟩
  have hbx1 : Boxed w1 w.heap.size f g h := (Boxed.new w).below hb1 (by simp)
  have hw1 : Below w.heap.size w w1 := (below_box w _).trans (hb1.mono (by simp))
  have k0 := hbx1.c0
  have wf := HW.out
  go_wp2_with fail
  refine (hnum.out _).mono ?_
  rintro e w2 ⟨v2, rfl, ho2, hb2⟩
  have hbx2 := hbx1.below hb2 hbx1.lt
  have hw2 := hw1.trans (hb2.mono hw1.size)
  have hlt : w.heap.size < w1.heap.size := hbx1.lt
  have hz2 := hb2.size
  generalize w1.heap.size = B at *
  clear hb2 hbx1 k0 hb1 wf
  have k1 : w2.cell? ⟨w.heap.size, 1, none⟩ = _ := hbx2.c1
  have k1' : w2.drew.cell? ⟨w.heap.size, 1, none⟩ = _ := hbx2.c1
  have k1a : (w2.alloc (Obj.cells #[.int .u8 46] 5)).cell? ⟨w.heap.size, 1, none⟩ = _ := (hbx2.keep (w' := w2.alloc (Obj.cells #[.int .u8 46] 5)) (Below.heap_alloc w2 _ _ hbx2.lt)).c1
  have HO2 := Lib.hid (show ∀ o, Own 5 (w2.drew.alloc o) B v2 D from fun o => ho2.alloc8 o)
  go_wp2_with fail
  go_region_law (first
    | (refine step_append8 _ rfl (.tmp 15) (.tmp 16) 47 rfl B 5 Tryz.underlying47 info5 v2 D rfl (HO2.out _) w2.heap.size _ [46] rfl (Shows.lit (w := w2.drew) [46] (lit1 46 (by omega)) (by simp [maxLen])) (by simp; omega) (by simp; omega) ?_
       intro v3 w3 ho3 hg3
       have hbx3 : Boxed w3 w.heap.size f g h := hbx2.keep ((hg3.block _ (by simp; have := hbx2.lt; omega) (fun e => by have := (ho2.block _ e.symm).1; omega)).trans (Below.heap_alloc w2.drew _ _ hbx2.lt))
       have hz3 : w2.heap.size < w3.heap.size := by have := hg3.size; simp at this; omega
       have hw3 : Below w.heap.size w w3 := ((below_drew1 hw2).alloc hw2.size _).grown hg3 (by simp; omega) (fun q hq => by have := (ho2.block q hq).1; omega)
       have k3 := hbx3.c1)
    | (go_simp; go_at_call 47
       with_reducible refine (hx1.out B _ _ _ ho3 (by simp; omega) (by omega)).mono ?_
       rintro e w4 ⟨v4, rfl, ho4, hb4⟩
       have hbx4 : Boxed w4 w.heap.size f g h := hbx3.below hb4 (by omega)
       have hz4 := hb4.size
       have hw4 : Below w.heap.size w w4 := hw3.trans (hb4.mono (by omega))))
  all_goals
    clear HO2 k3 k1a k1' k1 hbx3 hbx2 hw3 hb4 hg3 ho3
    have hlt4 : w.heap.size < w4.heap.size := hbx4.lt
    have k2 : w4.cell? ⟨w.heap.size, 2, none⟩ = _ := hbx4.c2
    have k2' : w4.drew.cell? ⟨w.heap.size, 2, none⟩ = _ := hbx4.c2
    have k2a : (w4.alloc (Obj.cells #[.int .u8 46] 5)).cell? ⟨w.heap.size, 2, none⟩ = _ := (hbx4.keep (w' := w4.alloc (Obj.cells #[.int .u8 46] 5)) (Below.heap_alloc w4 _ _ hbx4.lt)).c2
    have HO4 := Lib.hid (show ∀ o, Own 5 (w4.drew.alloc o) B v4 (D ++ [46] ++ G) from fun o => ho4.alloc8 o)
    have hB4 : B ≤ w4.heap.size := by omega
    clear hz4 hz2
    go_wp2_with fail
    go_region_law (first
      | (refine step_append8 _ rfl (.tmp 21) (.tmp 22) 47 rfl B 5 Tryz.underlying47 info5 v4 (D ++ [46] ++ G) rfl (HO4.out _) w4.heap.size _ [46] rfl (Shows.lit (w := w4.drew) [46] (lit1 46 (by omega)) (by simp [maxLen])) (by have := SG.out; simp; omega) (by simp; omega) ?_
         intro v5 w5 ho5 hg5
         have hbx5 : Boxed w5 w.heap.size f g h := hbx4.keep ((hg5.block _ (by simp; omega) (fun e => by have := (ho4.block _ e.symm).1; omega)).trans (Below.heap_alloc w4.drew _ _ hbx4.lt))
         have hz5 : w4.heap.size < w5.heap.size := by have := hg5.size; simp at this; omega
         have hw5 : Below w.heap.size w w5 := ((below_drew1 hw4).alloc hw4.size _).grown hg5 (by simp; omega) (fun q hq => by have := (ho4.block q hq).1; omega)
         have k5 := hbx5.c2)
      | (go_simp; go_at_call 47
         with_reducible refine (hx2.out B _ _ _ ho5 (by have := SG.out; simp; omega) (by omega)).mono ?_
         rintro e w6 ⟨v6, rfl, ho6, hb6⟩
         have hz6 := hb6.size
         have hw6 : Below w.heap.size w w6 := hw5.trans (hb6.mono (by omega))))
    all_goals
      clear HO4 k5 k2a k2' k2 hbx5 hbx4 hw5 hb6 hg5 ho5 hz5
      rw [← HE.out] at ho6
      obtain ⟨gg, _, hsh⟩ := ho6.shows
      have hcv := conv_at hsh
      go_wp2_with fail
      go_ret2
      exact ⟨rfl, hw6⟩

end Go.Proofs.YtdjahdnaihijjaaGreatDoor
