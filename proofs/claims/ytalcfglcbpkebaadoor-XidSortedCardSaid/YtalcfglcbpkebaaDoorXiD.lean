/-
  The contracts of xid's appendHex and Text.
  Conditions: none but sizes; the table of powers of ten reads as the library's own text lays it.
-/
import Derived.Test.YtalcfglcbpkebaaDoorXiC
import Derived.Deep.RegionLaw
import Derived.Laws.BitsAllLaws
namespace Go.Proofs.YtalcfglcbpkebaaDoor
open Go.RowKit
set_option linter.unusedVariables false
set_option linter.unusedSimpArgs false

/-- The signs. -/
def signs : ByteArray := { data := #[48, 49, 50, 51, 52, 53, 54, 55, 56, 57, 97, 98, 99, 100, 101, 102] }
theorem signs_at (k : Nat) (h : k < signs.size) : (signs[k]'h).toNat = signD k := by
  have h2 : k < 16 := h
  have : ∀ j : Fin 16, (signs[j.val]'j.isLt).toNat = signD j.val := by decide
  exact this ⟨k, h2⟩
theorem lit_signs (a b : Nat) (ha : a < signs.size) (hb : b < signs.size) :
    (#[Value.int .u8 ((signs[a]'ha).toNat : Nat), Value.int .u8 ((signs[b]'hb).toNat : Nat)] : Array Value) = (bs [UInt8.ofNat (signD a), UInt8.ofNat (signD b)]).toArray := by
  rw [signs_at, signs_at]
  exact lit2 _ _ (signD_lt a ha) (signD_lt b hb)

set_option maxRecDepth 100000 in
theorem appendHex_any (base : Nat) (v0 : Value) (l : List UInt8) (s : ByteArray) (w : World) (ho0 : Own 5 w base v0 l) (hs : s.size ≤ 1000) (hl0 : l.length ≤ 1000) (hb0 : base ≤ w.heap.size) :
    Calls Tryd.prog 36 #[v0, .string s] w fun e w' => ∃ v, e = .returned v ∧ Own 5 w' base v (l ++ hexD (sb s)) ∧ Below base w w' := by
  go_enter Tryd.func36, Tryd.ntmps36
  go_wp2_with fail
  go_loopw [0, 8] (fun v i wr => ∃ k : Nat, k ≤ s.size ∧ i = .int .i64 k ∧ Own 5 wr base v (l ++ hexD ((sb s).take k)) ∧ base ≤ wr.heap.size ∧ Below base w wr) (fun _ i _ => s.size - (intOf i).toNat)
  case atStart => exact ⟨0, by omega, rfl, by simpa [hexD] using ho0, hb0, Below.refl _ _⟩
  case round =>
    obtain ⟨k, hk, rfl, ho, hz, hbw⟩ := hrel
    by_cases h1 : k < s.size
    · have b1 : (k : Int) < (s.size : Int) := by omega
      have hx := s[k].toNat_lt
      have hst : hexD ((sb s).take (k + 1)) = hexD ((sb s).take k) ++ [UInt8.ofNat (signD (s[k].toNat / 16)), UInt8.ofNat (signD (s[k].toNat % 16))] := by
        rw [List.take_succ_eq_append_getElem (by rw [sb_length]; exact h1), hexD_snoc]
        rfl
      have hjl : (hexD ((sb s).take k)).length = 2 * k := by rw [hexD_length]; simp [sb_length]; omega
      have hq0 : (0 : Int) ≤ IntKind.u8.wrap ((s[k].toNat : Int) / 16) := by rw [IntKind.wrap_u8]; omega
      have hq1 : IntKind.u8.wrap ((s[k].toNat : Int) / 16) < 16 := by rw [IntKind.wrap_u8]; omega
      have hr0 : (0 : Int) ≤ (s[k].toNat : Int).tmod 16 := by rw [Int.tmod_eq_emod_of_nonneg (by omega)]; omega
      have hr1 : (s[k].toNat : Int).tmod 16 < 16 := by rw [Int.tmod_eq_emod_of_nonneg (by omega)]; omega
      have p1 : (IntKind.u8.wrap ((s[k].toNat : Int) / 16)).toNat < signs.size := by show _ < 16; omega
      have p2 : ((s[k].toNat : Int).tmod 16).toNat < signs.size := by show _ < 16; omega
      have e1 : (IntKind.u8.wrap ((s[k].toNat : Int) / 16)).toNat = s[k].toNat / 16 := by rw [IntKind.wrap_u8]; omega
      have e2 : ((s[k].toNat : Int).tmod 16).toNat = s[k].toNat % 16 := by rw [Int.tmod_eq_emod_of_nonneg (by omega)]; omega
      have HST := Lib.hid hst
      have HJL := Lib.hid hjl
      have HL := Lib.hid (lit_signs (IntKind.u8.wrap ((s[k].toNat : Int) / 16)).toNat ((s[k].toNat : Int).tmod 16).toNat p1 p2)
      rw [show bs [UInt8.ofNat (signD (IntKind.u8.wrap ((s[k].toNat : Int) / 16)).toNat), UInt8.ofNat (signD ((s[k].toNat : Int).tmod 16).toNat)] = bs [UInt8.ofNat (signD (s[k].toNat / 16)), UInt8.ofNat (signD (s[k].toNat % 16))] by rw [e1, e2]] at HL
      clear hst hjl e1 e2
      generalize hrow : hexD ((sb s).take k) = row at *
      clear hrow
      have HO := Lib.hid (show ∀ q o, Own 5 ((wr.drewN q).alloc o) base u0 (l ++ row) from fun q o => ho.alloc8 o)
      generalize UInt8.ofNat (signD (s[k].toNat / 16)) = dx at *
      generalize UInt8.ofNat (signD (s[k].toNat % 16)) = dy at *
      go_wp2_with fail
      go_region_law
        (refine step_append8 _ rfl (.tmp 11) (.tmp 22) 31 rfl base 5 Tryd.underlying31 info5 _ (l ++ row) rfl (HO.out _ _) wr.heap.size _ [dx, dy] rfl (Shows.lit (w := wr) [dx, dy] HL.out (by simp [maxLen])) (by rw [List.length_append, HJL.out]; simp; omega) (by simp; omega) ?_
         intro v6 w6 ho6 hg6)
      all_goals
        have hb6 : Below base w w6 := ((below_drewN hbw _).alloc hz _).grown hg6 (by simp; omega) (fun q hq => (ho.block q hq).1)
        have hz6 := hg6.size
        go_wp2_with fail
        go_roundw
        case rel => exact ⟨k + 1, by omega, by go_num, by rw [HST.out, ← List.append_assoc]; exact ho6, by simp at hz6; omega, hb6⟩
        case measure => simp [intOf]; omega
    · obtain rfl : k = s.size := by omega
      rw [List.take_of_length_le (by rw [sb_length]; exact Nat.le_refl _)] at ho
      go_wp2_with fail
      go_ret
      exact ⟨u0, rfl, ho, hbw⟩

end Go.Proofs.YtalcfglcbpkebaaDoor
