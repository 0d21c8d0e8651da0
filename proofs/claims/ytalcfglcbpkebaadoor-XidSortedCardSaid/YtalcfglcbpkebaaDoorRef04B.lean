/-
  The contracts of the document's Digits, Hex, Unhex of names.
  Conditions: none but sizes.
-/
import Derived.Test.YtalcfglcbpkebaaDoorRef04A
import Derived.Test.YtalcfglcbpkebaaDoorOctBig
namespace Go.Proofs.YtalcfglcbpkebaaDoor
open Go.RowKit
set_option linter.unusedVariables false
set_option linter.unusedSimpArgs false

/-- The digits of a number, the highest first. -/
def digD (n : Nat) : List UInt8 := if n < 10 then [UInt8.ofNat (48 + n)] else digD (n / 10) ++ [UInt8.ofNat (48 + n % 10)]
theorem digD_small {n : Nat} (h : n < 10) : digD n = [UInt8.ofNat (48 + n)] := by rw [digD, if_pos h]
theorem digD_step {n : Nat} (h : 9 < n) : digD n = digD (n / 10) ++ [UInt8.ofNat (48 + n % 10)] := by rw [digD, if_neg (by omega)]
theorem str8_append (a b : List UInt8) : str8 a ++ str8 b = str8 (a ++ b) := by
  apply ByteArray.ext
  simp [str8]

theorem digD_length : ∀ (k n : Nat), n < 10 ^ (k + 1) → (digD n).length ≤ k + 1
  | 0, n, h => by rw [digD_small (by simpa using h)]; simp
  | k + 1, n, h => by
    by_cases hn : n < 10
    · rw [digD_small hn]; simp
    · rw [digD_step (by omega)]
      have := digD_length k (n / 10) (by rw [Nat.pow_succ] at h; omega)
      simp; omega
theorem lit1 (d : Nat) (h : d < 256) : (#[Value.int IntKind.u8 d] : Array Value) = (bs [UInt8.ofNat d]).toArray := by
  simp [bs, u8c, Nat.mod_eq_of_lt h]

theorem qdigits_any (n : Nat) (w : World) (hn : n < 18446744073709551616) :
    Calls Tryd.prog 37 #[.int .u64 n] w fun e w' => e = .returned (.string (str8 (digD n))) ∧ Below w.heap.size w w' := by
  go_enter Tryd.func37, Tryd.ntmps37
  go_wp2_with fail
  go_loopw [0, 3] (fun s0 s3 wr => ∃ (m : Nat) (rest : List UInt8), m ≤ n ∧ digD n = digD m ++ rest ∧ s0 = .int .u64 m ∧ s3 = .string (str8 rest) ∧ Below w.heap.size w wr) (fun i _ _ => (intOf i).toNat)
  case atStart => exact ⟨n, [], Nat.le_refl _, by simp, rfl, rfl, Below.refl _ _⟩
  case round =>
    obtain ⟨m, rest, hm, hdig, rfl, rfl, hbw⟩ := hrel
    have hrl : (str8 rest).size ≤ 20 := by
      have h1 := digD_length 19 n (by simp; omega)
      rw [hdig, List.length_append] at h1
      rw [str8_size]; omega
    by_cases hlt : 9 < m
    · have hl : (9 : Int) < (m : Int) := by omega
      have hcv : (convert 31 9 (.slice (some ⟨wr.heap.size, 0, none⟩) 1 1)).run Tryd.prog (wr.alloc (Obj.cells #[.int .u8 (48 + (m : Int) % 10)] 5)) = .ok (.string (str8 [UInt8.ofNat (48 + m % 10)])) (wr.alloc (Obj.cells #[.int .u8 (48 + (m : Int) % 10)] 5)) :=
        conv_at (Shows.lit (w := wr) [UInt8.ofNat (48 + m % 10)] (by rw [← lit1 _ (by omega)]; simp) (by simp [maxLen]))
      have HST := Lib.hid (show digD n = digD (m / 10) ++ ([UInt8.ofNat (48 + m % 10)] ++ rest) by rw [hdig, digD_step hlt, List.append_assoc])
      clear hdig
      have hz : ¬ 9223372036854775807 < (str8 [UInt8.ofNat (48 + m % 10)]).size + (str8 rest).size := by rw [str8_size]; simp; omega
      generalize [UInt8.ofNat (48 + m % 10)] = d at *
      go_wp2_with fail
      go_roundw
      case rel => exact ⟨m / 10, d ++ rest, by omega, HST.out, by go_num, by rw [← str8_append], hbw.alloc hbw.size _⟩
      case measure => simp [intOf]; omega
    · have hl : decide ((9 : Int) < (m : Int)) = false := by simp; omega
      have hcv : (convert 31 9 (.slice (some ⟨wr.heap.size, 0, none⟩) 1 1)).run Tryd.prog (wr.alloc (Obj.cells #[.int .u8 (48 + (m : Int))] 5)) = .ok (.string (str8 [UInt8.ofNat (48 + m)])) (wr.alloc (Obj.cells #[.int .u8 (48 + (m : Int))] 5)) :=
        conv_at (Shows.lit (w := wr) [UInt8.ofNat (48 + m)] (by rw [← lit1 _ (by omega)]; simp) (by simp [maxLen]))
      have HST := Lib.hid (show str8 (digD n) = str8 [UInt8.ofNat (48 + m)] ++ str8 rest by rw [hdig, digD_small (by omega), str8_append])
      clear hdig
      have hz : ¬ 9223372036854775807 < (str8 [UInt8.ofNat (48 + m)]).size + (str8 rest).size := by rw [str8_size]; simp; omega
      generalize [UInt8.ofNat (48 + m)] = d at *
      go_wp2_with fail
      go_ret
      exact ⟨by rw [HST.out]; rfl, hbw.alloc hbw.size _⟩

end Go.Proofs.YtalcfglcbpkebaaDoor
