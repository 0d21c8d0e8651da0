/-
  The appends of OctetPuts, for texts and slices that are together a little more than 2^47 bytes; the contracts of octet.PutText and of the document's Put and PutText.
  Conditions: a slice of at most 2^47 - 4096 bytes.
-/
import Derived.Test.YtdklhcmoilcpgaaGreatRefRdZ
import Derived.Test.YtdklhcmoilcpgaaGreatBigZ
namespace Go.Proofs.YtdklhcmoilcpgaaGreat
open Go.RowKit
set_option linter.unusedVariables false
set_option linter.unusedSimpArgs false
theorem be_cons : ∀ (k n : Nat), be (k + 1) n = UInt8.ofNat (n / 256 ^ k) :: be k n
 | 0, n => by simp [be]
 | k + 1, n => by
  show be (k + 1) (n / 256) ++ [UInt8.ofNat n] = _
  rw [be_cons k (n / 256), List.cons_append, Nat.div_div_eq_div_mul, Nat.pow_succ, Nat.mul_comm 256]
  rfl
set_option maxHeartbeats 400000 in
theorem number_any (k N : Nat) (w : World) (hk : k ≤ 8) (hN : N < 18446744073709551616) :
    Calls Tryz.prog 62 #[.int .u64 N, .int .i64 k] w fun e w' => ∃ v, e = .returned v ∧ Own 5 w' w.heap.size v (be k N) ∧ Below w.heap.size w w' := by
  go_enter Tryz.func62, Tryz.ntmps62
  go_wp2_with fail
  go_loopw [0, 5, 6] (fun s0 s5 s6 wr => ∃ j : Nat, j ≤ k ∧ s6 = .int .i64 j ∧ s0 = .int .u64 (N / 256 ^ j : Nat) ∧ Own 5 wr w.heap.size s5 (be j N) ∧ Below w.heap.size w wr) (fun _ _ i _ => k - (intOf i).toNat)
  case atStart => exact ⟨0, Nat.zero_le _, rfl, by simp, Own.nil_ _ _ _, Below.refl _ _⟩
  case round =>
    obtain ⟨j, hj, rfl, rfl, ho, hbr⟩ := hrel
    by_cases hlt : j < k
    · have hx : N / 256 ^ j ≤ N := Nat.div_le_self _ _
      have hd : N / 256 ^ j / 256 = N / 256 ^ (j + 1) := by rw [Nat.div_div_eq_div_mul, Nat.pow_succ]
      have HD := Lib.hid hd
      have hbe := be_cons j N
      have HBE := Lib.hid hbe
      clear hd hbe
      generalize N / 256 ^ j = x at *
      obtain ⟨go, _, hso⟩ := ho.shows
      have hz := hbr.size
      have hjl := be_length j N
      have HJL := Lib.hid hjl
      clear hjl
      go_wp2_with (at_builtin
                   refine wpList_append8 _ rfl (.tmp 15) (.tmp 16) 50 rfl w.heap.size 5 Tryz.underlying50 info5 (.slice (some ⟨wr.heap.size, 0, none⟩) 1 1) [UInt8.ofNat x] rfl (Own.lit (w := wr) [UInt8.ofNat x] (by simp [bs, u8c]) (by simp [maxLen]) hz) go u5 (be j N) rfl (hso.keep (by simp) (fun hp => Below.heap_alloc _ _ _ (hso.lt hp))) (by rw [HJL.out]; simp; omega) (by simp; omega) ?_
                   intro v1 w1 ho1 hg1
                   have hb1 : Below w.heap.size w w1 := (hbr.alloc hz _).grown hg1 (by simp; omega) (fun k hk => by simp [Value.ownBlock] at hk; omega))
      go_roundw
      case rel => exact ⟨j + 1, by omega, by go_num, by rw [← HD.out]; go_num, by rw [HBE.out]; exact ho1, hb1⟩
      case measure => simp [intOf]; omega
    · have : j = k := by omega
      have HJ := Lib.hid this
      clear this
      go_wp2_with fail
      go_ret
      rw [HJ.out] at ho
      exact ⟨_, rfl, ho, hbr⟩
end Go.Proofs.YtdklhcmoilcpgaaGreat
