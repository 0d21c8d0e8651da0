/-
  Sorting of numbers: three are thrown about, so that a pattern breaks.
  Conditions: none but sizes.
-/
import Derived.Test.YtkcbkimconaegaaQsJ
namespace Go.Proofs.Ytkcbkimconaegaa
open Go.RowKit
open Go.Sort (swp bitsLen xorNextN xorNextN_lt PermIn permIn_refl permIn_trans swp_permIn two_pow_bitsLen_le)
set_option linter.unusedVariables false
set_option linter.unusedSimpArgs false
set_option maxRecDepth 100000

def BoxXs (w : World) (sb : Nat) (v : Nat) : Prop := w.heap[sb]? = some (.cells #[.int .u64 v] 98 (0, 0))
section
variable {w w' : World} {blk off N sb v : Nat} {d : Array Nat}
theorem BoxXs.c (h : BoxXs w sb v) : w.cell? ⟨sb, 0, none⟩ = some (.int .u64 v) := by rw [cell_of_row _ _ _ _ _ (0, 0) h]; rfl
theorem BoxXs.fr (h : BoxXs w sb v) : w.frozen? ⟨sb, 0, none⟩ = false := frozen_of_row w sb 0 _ _ h
theorem BoxXs.set (h : BoxXs w sb v) (u : Nat) : BoxXs (w.setCell ⟨sb, 0, none⟩ (.int .u64 u)) sb u := heap_setCell_same w sb 0 _ 98 (.int .u64 u) h
theorem BoxXs.keep (h : BoxXs w sb v) (k : w'.heap[sb]? = w.heap[sb]?) : BoxXs w' sb v := k.trans h
end
/-- The world in the loop: the row, and the box of the random numbers. -/
structure RndW (w0 : World) (blk off N : Nat) (d : Array Nat) (R : Nat) (w : World) : Prop where
  srt : SrtW w0 blk off N d w
  box : BoxXs w w0.heap.size R
section
variable {w0 w w' : World} {blk off N R : Nat} {d : Array Nat}
theorem RndW.ne (h : RndW w0 blk off N d R w) : blk ≠ w0.heap.size := fun e => Nat.lt_irrefl _ (e ▸ h.srt.inn)
theorem RndW.next (h : RndW w0 blk off N d R w) (u q : Nat) : RndW w0 blk off N d u ((w.setCell ⟨w0.heap.size, 0, none⟩ (.int .u64 u)).drewN q) :=
  ⟨SrtW.drewN ⟨h.srt.hold.keep (Below.heap_setCell _ _ _ _ h.ne), h.srt.mv.setCell (fun hl => absurd hl (Nat.lt_irrefl _)) _ _, h.srt.inn⟩ q, h.box.set u⟩
theorem RndW.drew (h : RndW w0 blk off N d R w) : RndW w0 blk off N d R w.drew := ⟨h.srt.drew, h.box⟩
theorem RndW.swap (h : RndW w0 blk off N d R w) {i j : Nat} (hi : i < d.size) (hj : j < d.size) : RndW w0 blk off N (swp d i j) R ((w.setCell ⟨blk, off + i, none⟩ (.int .u64 (d[j]! : Nat))).setCell ⟨blk, off + j, none⟩ (.int .u64 (d[i]! : Nat))) :=
  ⟨h.srt.swap hi hj, (h.box.keep (Below.heap_setCell _ _ _ _ h.ne.symm)).keep (Below.heap_setCell _ _ _ _ h.ne.symm)⟩
end

set_option maxHeartbeats 16000000 in
theorem break_any {w : World} {blk off N cap a b n : Nat} {d : Array Nat} (h : HoldU w blk off N d) (hdn : d.size = n) (hab : a + 12 < b) (hb : b ≤ n) (hn : n ≤ 1000000) :
    Calls Try.prog 64 #[.slice (some ⟨blk, off, none⟩) n cap, .int .i64 a, .int .i64 b] w fun e w' => e = .returned (.tuple #[]) ∧ ∃ d', PermIn a b d d' ∧ SrtW w blk off N d' w' := by
  obtain ⟨l, hl⟩ : ∃ l, b = a + l := ⟨b - a, by omega⟩
  obtain ⟨q, hq⟩ : ∃ q, q = l / 4 := ⟨_, rfl⟩
  obtain ⟨q2, hq2⟩ : ∃ q2, q2 = q * 2 := ⟨_, rfl⟩
  obtain ⟨s, hs⟩ : ∃ s, s = a + q2 := ⟨_, rfl⟩
  obtain ⟨i0, hi0⟩ : ∃ i0, s = i0 + 1 := ⟨s - 1, by omega⟩
  obtain ⟨z, hz⟩ : ∃ z, z = s + 1 := ⟨_, rfl⟩
  obtain ⟨M, hM⟩ : ∃ M : Nat, M = 1 <<< bitsLen l := ⟨_, rfl⟩
  have hM1 : 1 ≤ M := by rw [hM, Nat.one_shiftLeft]; exact Nat.two_pow_pos _
  have hM2 : M ≤ 2 * l := by rw [hM, Nat.one_shiftLeft]; exact two_pow_bitsLen_le (by omega)
  obtain ⟨M1, hM3⟩ : ∃ M1, M = M1 + 1 := ⟨M - 1, by omega⟩
  have hln : l ≤ n := by omega
  have HNP := Lib.hid (fun w' => (show Calls Try.prog 75 #[.int .i64 (l : Int)] w' (fun e w'' => e = .returned (.int .u64 (M : Int)) ∧ w'' = w') from by rw [hM]; exact pow_any l (Nat.le_trans hln hn) w'))
  have hrg : i0 < n ∧ s < n ∧ z < n ∧ z < b ∧ a ≤ i0 := by omega
  obtain ⟨W0, hW0⟩ : ∃ W0, W0 = w.alloc (.cells #[.int .u64 l] 98) := ⟨_, rfl⟩
  have hb0 : Below w.heap.size w W0 := by rw [hW0]; exact (Below.refl _ _).alloc (Nat.le_refl _) _
  have HR0 := Lib.hid (show RndW w blk off N d l W0 from ⟨(SrtW.refl h).below hb0, by rw [hW0]; exact heap_alloc_new w _⟩)
  have HDN := Lib.hid hdn
  have HAL := Lib.hid (And.intro hl (And.intro hs (And.intro hi0 (And.intro hz (And.intro hM2 (And.intro hM3 (And.intro hrg (And.intro hab (And.intro hb (And.intro hn hln))))))))))
  have hlX : l < 18446744073709551616 := by have := hn; have := hln; omega
  have HLX := Lib.hid hlX
  have hl8 : (8 : Int) ≤ (l : Int) := by omega
  obtain ⟨a1, a2⟩ := sub_wraps hl (le2 hb hn)
  have ax : IntKind.u64.wrap (l : Int) = (l : Int) := by clear a1 a2; simp [IntKind.wrap, IntKind.bits, IntKind.signed]; omega
  obtain ⟨a3, a4, a5⟩ := quart_wraps hq (le2 hln hn)
  obtain ⟨a6, a7⟩ := id_wraps (show q ≤ 2000000 by clear a1 a2 a3 a4 a5 ax; omega)
  obtain ⟨a8, a9⟩ := mul_wraps 2 (show (q2 : Int) = q * 2 by clear a1 a2 a3 a4 a5 a6 a7 ax; omega) (show q2 ≤ 2000000 by clear a1 a2 a3 a4 a5 a6 a7 ax; omega)
  obtain ⟨a12, a13⟩ := add_wraps hs (le2 (Nat.le_of_lt hrg.2.1) hn)
  obtain ⟨a14, a15⟩ := pred_wraps hi0 (le2 (Nat.le_of_lt hrg.2.1) hn)
  obtain ⟨a16, a17⟩ := next_wraps hz (le2 (Nat.le_of_lt hrg.2.2.1) hn)
  clear h hdn hab hb hn hl hq hq2 hs hi0 hz hM hM1 hM2 hM3 hrg hb0 hln hlX
  go_enter Try.func64, Try.ntmps64
  go_upto_region 3 with fail
  rw [← hW0]
  clear hW0
  go_wp2_with fail
  refine (HNP.out _).mono ?_
  rintro e w1 ⟨rfl, rfl⟩
  go_wp2_with fail
  clear a14 a15 ax hl8 a1 a2
  go_loopw [9] (fun s9 wr => ∃ (I R : Nat) (dk : Array Nat), s9 = .int .i64 I ∧ i0 ≤ I ∧ I ≤ z + 1 ∧ Hid (R < 18446744073709551616) ∧ Hid (RndW w blk off N dk R wr) ∧ Hid (PermIn a b d dk)) (fun s9 _ => z + 1 - (intOf s9).toNat)
  case atStart => exact ⟨i0, l, d, rfl, Nat.le_refl _, by have := HAL.out; clear a3 a4 a5 a6 a7 a8 a9 a12 a13 a16 a17; omega, HLX, HR0, Lib.hid (permIn_refl _ _ _)⟩
  case round =>
    rename World => wr
    obtain ⟨I, R, dk, rfl, hiI, hIz, HRX, HRW, HPM⟩ := hrel
    by_cases hle : I ≤ z
    · have hleI : (I : Int) ≤ (z : Int) := Int.ofNat_le.2 hle
      have HII := Lib.hid (And.intro hiI hle)
      obtain ⟨I1, hI1⟩ : ∃ I1, I1 = I + 1 := ⟨_, rfl⟩
      obtain ⟨R', hR'⟩ : ∃ R' : Nat, R' = xorNextN R := ⟨_, rfl⟩
      have lR' : R' < 18446744073709551616 := by rw [hR']; exact xorNextN_lt R HRX.out
      have HRX' := Lib.hid lR'
      obtain ⟨O, hO⟩ : ∃ O : Nat, O = R' &&& M1 := ⟨_, rfl⟩
      have lO : O ≤ M1 := by rw [hO]; exact Nat.and_le_right
      have hNext := Lib.hid (show Calls Try.prog 76 #[.pointer (some ⟨w.heap.size, 0, none⟩)] wr (fun e w' => e = .returned (.int .u64 (R' : Int)) ∧ Hid (RndW w blk off N dk R' w')) from by
        rw [hR']
        exact (xor_any _ R HRX.out wr HRW.out.box.c HRW.out.box.fr).mono fun e w' ⟨e1, e2⟩ => ⟨e1, Lib.hid (by rw [e2]; exact HRW.out.next _ 3)⟩)
      have HDK := Lib.hid (show dk.size = n from HPM.out.1.trans HDN.out)
      have hAL := HAL.out
      have hMn : M1 ≤ 2000000 := by clear a3 a4 a5 a6 a7 a8 a9 a12 a13 a16 a17; omega
      have hIn : I < n := by clear a3 a4 a5 a6 a7 a8 a9 a12 a13 a16 a17; omega
      have hIb : a ≤ I ∧ I < b := by clear a3 a4 a5 a6 a7 a8 a9 a12 a13 a16 a17; omega
      have b5 : bits .and .u64 (R' : Int) (M1 : Int) = (O : Int) := by rw [bits_and_u64_nat _ _ lR' (by clear a3 a4 a5 a6 a7 a8 a9 a12 a13 a16 a17; omega), hO]
      have b3 : IntKind.u64.wrap ((M : Int) - 1) = (M1 : Int) := by
        have e : (M : Int) - 1 = (M1 : Int) := by clear a3 a4 a5 a6 a7 a8 a9 a12 a13 a16 a17; omega
        rw [e]; clear a3 a4 a5 a6 a7 a8 a9 a12 a13 a16 a17 e; simp [IntKind.wrap, IntKind.bits, IntKind.signed]; omega
      have b4 : IntKind.u64.wrap (M1 : Int) = (M1 : Int) := by clear a3 a4 a5 a6 a7 a8 a9 a12 a13 a16 a17 b3; simp [IntKind.wrap, IntKind.bits, IntKind.signed]; omega
      have b3' : (M : Int) - 1 = (M1 : Int) := by clear a3 a4 a5 a6 a7 a8 a9 a12 a13 a16 a17 b3 b4; omega
      have HKE := Lib.hid (fun o (ho : o < l) => (show a + o < n ∧ a ≤ a + o ∧ a + o < b from by clear a3 a4 a5 a6 a7 a8 a9 a12 a13 a16 a17 b3 b4 b5 b3'; omega))
      have hOl : O < 2 * l := by clear a3 a4 a5 a6 a7 a8 a9 a12 a13 a16 a17 b3 b4 b5 b3'; omega
      obtain ⟨b1, b2⟩ := next_wraps hI1 (by rw [hI1]; exact le3 hIn hAL.2.2.2.2.2.2.2.2.2.1)
      obtain ⟨b6, b7⟩ := id_wraps (Nat.le_trans lO hMn)
      have HI1 := Lib.hid hI1
      have HIN := Lib.hid (And.intro hIn hIb)
      have HN2 := Lib.hid hAL.2.2.2.2.2.2.2.2.2.1
      clear hR' hO lO lR' hMn hIn hIb hI1 hAL hle hiI hIz
      by_cases hLO : l ≤ O
      · have hLOI : (l : Int) ≤ (O : Int) := Int.ofNat_le.2 hLO
        obtain ⟨o, ho⟩ : ∃ o, O = l + o := ⟨O - l, by clear a3 a4 a5 a6 a7 a8 a9 a12 a13 a16 a17 b1 b2 b3 b4 b5 b3' b6 b7; omega⟩
        have hol : o < l := by clear a3 a4 a5 a6 a7 a8 a9 a12 a13 a16 a17 b1 b2 b3 b4 b5 b3' b6 b7; omega
        obtain ⟨K, hK⟩ : ∃ K, K = a + o := ⟨_, rfl⟩
        have hKn := HKE.out o hol
        rw [← hK] at hKn
        have HKN := Lib.hid hKn
        obtain ⟨c1, c2⟩ := sub_wraps ho (by clear a3 a4 a5 a6 a7 a8 a9 a12 a13 a16 a17 b1 b2 b3 b4 b5 b3' b6 b7; have := HAL.out; omega)
        obtain ⟨c3, c4⟩ := add_wraps hK (le2 (Nat.le_of_lt hKn.1) HN2.out)
        clear hLO ho hol hK hKn hOl
        go_wp2_with fail
        refine hNext.out.mono ?_
        rintro e w2 ⟨rfl, HR2⟩
        clear a3 a4 a5 a6 a7 a8 a9 a12 a13 a16 a17
        have HR3 := Lib.hid HR2.out.drew
        obtain ⟨x, hx⟩ : ∃ x, x = dk[I]! := ⟨_, rfl⟩
        obtain ⟨y, hy⟩ : ∃ y, y = dk[K]! := ⟨_, rfl⟩
        have HSW := Lib.hid (show RndW w blk off N (swp dk I K) R' _ from HR3.out.swap (i := I) (j := K) (by rw [HDK.out]; exact HIN.out.1) (by rw [HDK.out]; exact HKN.out.1))
        have HPS := Lib.hid (show PermIn a b d (swp dk I K) from permIn_trans _ _ _ a b HPM.out (swp_permIn dk a b I K HIN.out.2.1 HIN.out.2.2 HKN.out.2.1 HKN.out.2.2 (by rw [HDK.out]; exact HAL.out.2.2.2.2.2.2.2.2.1)))
        have ci := HR2.out.srt.hold.cell (j := I) (by rw [HDK.out]; exact HIN.out.1)
        have ck := HR2.out.srt.hold.cell (j := K) (by rw [HDK.out]; exact HKN.out.1)
        have fi := HR2.out.srt.hold.fr (off + I)
        have fk := HR2.out.srt.hold.fr (off + K)
        obtain ⟨⟨z2, ck2⟩, fk2⟩ := HR3.out.srt.hold.second (i := I) (j := K) y (by rw [HDK.out]; exact HIN.out.1) (by rw [HDK.out]; exact HKN.out.1)
        have fk3 := fk2 (off + K)
        rw [← hx] at ci HSW
        rw [← hy] at ck HSW
        have hIn := HIN.out.1
        have hKn := HKN.out.1
        have HXY := Lib.hid (And.intro hx hy)
        clear fk2 hx hy
        by_cases hEq : I = K
        · subst hEq
          have HY := Lib.hid (show y = x from HXY.out.2.trans HXY.out.1.symm)
          obtain rfl := HY.out
          go_wp2_with fail
          go_region
          all_goals go_wp2_with fail
          clear hleI hLOI hIn hKn
          go_roundw
          case rel => exact ⟨I1, R', swp dk I I, by first | rfl | go_num, by have := HII.out; have := HI1.out; clear b1 b2 b3 b4 b5 b3' b6 b7 c3 c4 c1 c2; omega, by have := HII.out; have := HI1.out; clear b1 b2 b3 b4 b5 b3' b6 b7 c3 c4 c1 c2; omega, HRX', HSW, HPS⟩
          case measure => have := HII.out; have := HI1.out; clear b1 b2 b3 b4 b5 b3' b6 b7 c3 c4 c1 c2; simp [intOf]; omega
        · have hE2 : ¬ off + I = off + K := fun e => hEq (Nat.add_left_cancel e)
          have hE3 : ¬ off + K = off + I := fun e => hE2 e.symm
          have HB1 := Lib.hid b1
          have HB2 := Lib.hid b2
          go_upto_region 10 with fail
          clear b1 b2 b3 b4 b5 b3' b6 b7 c3 c1 c2 hleI hLOI
          go_region
          have b1 := HB1.out
          have b2 := HB2.out
          all_goals go_wp2_with fail
          clear hEq hE2 hE3 hIn hKn
          go_roundw
          case rel => exact ⟨I1, R', swp dk I K, by first | rfl | go_num, by have := HII.out; have := HI1.out; clear b1 b2 c4; omega, by have := HII.out; have := HI1.out; clear b1 b2 c4; omega, HRX', HSW, HPS⟩
          case measure => have := HII.out; have := HI1.out; clear b1 b2 c4; simp [intOf]; omega
      · have hLOI : ¬ (l : Int) ≤ (O : Int) := fun e => hLO (Int.ofNat_le.1 e)
        obtain ⟨K, hK⟩ : ∃ K, K = a + O := ⟨_, rfl⟩
        have hKn := HKE.out O (by clear a3 a4 a5 a6 a7 a8 a9 a12 a13 a16 a17 b1 b2 b3 b4 b5 b3' b6 b7; omega)
        rw [← hK] at hKn
        have HKN := Lib.hid hKn
        obtain ⟨c3, c4⟩ := add_wraps hK (le2 (Nat.le_of_lt hKn.1) HN2.out)
        have hLOL : O < l := Nat.lt_of_not_le hLO
        clear hK hKn hOl
        go_wp2_with fail
        refine hNext.out.mono ?_
        rintro e w2 ⟨rfl, HR2⟩
        clear a3 a4 a5 a6 a7 a8 a9 a12 a13 a16 a17
        have HR3 := Lib.hid HR2.out.drew
        obtain ⟨x, hx⟩ : ∃ x, x = dk[I]! := ⟨_, rfl⟩
        obtain ⟨y, hy⟩ : ∃ y, y = dk[K]! := ⟨_, rfl⟩
        have HSW := Lib.hid (show RndW w blk off N (swp dk I K) R' _ from HR3.out.swap (i := I) (j := K) (by rw [HDK.out]; exact HIN.out.1) (by rw [HDK.out]; exact HKN.out.1))
        have HPS := Lib.hid (show PermIn a b d (swp dk I K) from permIn_trans _ _ _ a b HPM.out (swp_permIn dk a b I K HIN.out.2.1 HIN.out.2.2 HKN.out.2.1 HKN.out.2.2 (by rw [HDK.out]; exact HAL.out.2.2.2.2.2.2.2.2.1)))
        have ci := HR2.out.srt.hold.cell (j := I) (by rw [HDK.out]; exact HIN.out.1)
        have ck := HR2.out.srt.hold.cell (j := K) (by rw [HDK.out]; exact HKN.out.1)
        have fi := HR2.out.srt.hold.fr (off + I)
        have fk := HR2.out.srt.hold.fr (off + K)
        obtain ⟨⟨z2, ck2⟩, fk2⟩ := HR3.out.srt.hold.second (i := I) (j := K) y (by rw [HDK.out]; exact HIN.out.1) (by rw [HDK.out]; exact HKN.out.1)
        have fk3 := fk2 (off + K)
        rw [← hx] at ci HSW
        rw [← hy] at ck HSW
        have hIn := HIN.out.1
        have hKn := HKN.out.1
        have HXY := Lib.hid (And.intro hx hy)
        clear fk2 hx hy
        by_cases hEq : I = K
        · subst hEq
          have HY := Lib.hid (show y = x from HXY.out.2.trans HXY.out.1.symm)
          obtain rfl := HY.out
          go_wp2_with fail
          go_region
          all_goals go_wp2_with fail
          clear hleI hLOI hLO hLOL hIn hKn
          go_roundw
          case rel => exact ⟨I1, R', swp dk I I, by first | rfl | go_num, by have := HII.out; have := HI1.out; clear b1 b2 b3 b4 b5 b3' b6 b7 c3 c4; omega, by have := HII.out; have := HI1.out; clear b1 b2 b3 b4 b5 b3' b6 b7 c3 c4; omega, HRX', HSW, HPS⟩
          case measure => have := HII.out; have := HI1.out; clear b1 b2 b3 b4 b5 b3' b6 b7 c3 c4; simp [intOf]; omega
        · have hE2 : ¬ off + I = off + K := fun e => hEq (Nat.add_left_cancel e)
          have hE3 : ¬ off + K = off + I := fun e => hE2 e.symm
          have HB1 := Lib.hid b1
          have HB2 := Lib.hid b2
          go_upto_region 10 with fail
          clear b1 b2 b3 b4 b5 b3' b6 b7 c3 hleI hLOI hLO hLOL
          go_region
          have b1 := HB1.out
          have b2 := HB2.out
          all_goals go_wp2_with fail
          clear hEq hE2 hE3 hIn hKn
          go_roundw
          case rel => exact ⟨I1, R', swp dk I K, by first | rfl | go_num, by have := HII.out; have := HI1.out; clear b1 b2 c4; omega, by have := HII.out; have := HI1.out; clear b1 b2 c4; omega, HRX', HSW, HPS⟩
          case measure => have := HII.out; have := HI1.out; clear b1 b2 c4; simp [intOf]; omega
    · have hleI : ¬ (I : Int) ≤ (z : Int) := fun e => hle (Int.ofNat_le.1 e)
      clear hiI hIz hle
      go_wp2_with fail
      first | go_end0 | refine bodyPost_ret (results_none rfl _ _ _) rfl ?_
      exact ⟨rfl, dk, HPM.out, HRW.out.srt⟩

end Go.Proofs.Ytkcbkimconaegaa
