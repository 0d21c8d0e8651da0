/-
  Sorting of numbers: slices.Sort.
  Conditions: none but sizes.
-/
import Derived.Test.YtkcbkimconaegaaQsL
namespace Go.Proofs.Ytkcbkimconaegaa
open Go.RowKit
open Go.Sort (swp bitsLen bitsLen_le_iff PermIn SortedIn)
set_option linter.unusedVariables false
set_option linter.unusedSimpArgs false
set_option maxRecDepth 100000

set_option maxHeartbeats 4000000 in
theorem sort_any {w : World} {blk off N cap n : Nat} {d : Array Nat} (h : HoldU w blk off N d) (hdn : d.size = n) (hn : n ≤ 1000000) :
    Calls Try.prog 49 #[.slice (some ⟨blk, off, none⟩) n cap] w fun e w' => e = .returned (.tuple #[]) ∧ ∃ d', PermIn 0 n d d' ∧ SortedIn ltN 0 n d' ∧ SrtW w blk off N d' w' := by
  have HL := Lib.hid (fun w' => len_any n hn w')
  have hk : bitsLen n ≤ 2000000 := Nat.le_trans ((bitsLen_le_iff n 62).2 (by omega)) (by omega)
  have HP := Lib.hid (pdq_any (blk := blk) (off := off) (N := N) (cap := cap) hn (n - 0) 0 n (bitsLen n) d w rfl h hdn (Nat.zero_le _) (Nat.le_refl _) hk (.inl rfl))
  have wr : IntKind.u64.wrap (n : Int) = n := by simp [IntKind.wrap, IntKind.bits, IntKind.signed]; omega
  have hz : ((0 : Nat) : Int) = 0 := rfl
  rw [hz] at HP
  clear h hdn hn hz
  go_enter Try.func49, Try.ntmps49
  go_wp2_with fail
  refine (HL.out _).mono ?_
  rintro e w1 ⟨rfl, rfl⟩
  go_wp2_with fail
  refine HP.out.mono ?_
  rintro e w2 ⟨rfl, HQ⟩
  go_wp2_with fail
  first | go_end0 | refine bodyPost_ret (results_none rfl _ _ _) rfl ?_
  exact ⟨rfl, HQ⟩

theorem ins_nil (w : World) : Calls Try.prog 62 #[.slice none 0 0, .int .i64 0, .int .i64 0] w fun e w' => e = .returned (.tuple #[]) ∧ w' = w := by
  go_enter Try.func62, Try.ntmps62
  go_wp2_with fail
  go_loopw [6] (fun s wr => s = .int .i64 1 ∧ wr = w) (fun _ _ => 0)
  case atStart => exact ⟨by first | rfl | go_num, rfl⟩
  case round =>
    obtain ⟨rfl, rfl⟩ := hrel
    go_wp2_with fail
    first | go_end0 | refine bodyPost_ret (results_none rfl _ _ _) rfl ?_
    exact ⟨rfl, rfl⟩

set_option maxHeartbeats 4000000 in
theorem pdq_nil (w : World) : Calls Try.prog 58 #[.slice none 0 0, .int .i64 0, .int .i64 0, .int .i64 0] w fun e w' => e = .returned (.tuple #[]) ∧ w' = w := by
  have HI := Lib.hid (ins_nil w)
  go_enter Try.func58, Try.ntmps58
  go_wp2_with fail
  go_loopw [1, 2, 3, 8, 9] (fun s1 s2 s3 s8 s9 wr => s1 = .int .i64 0 ∧ s2 = .int .i64 0 ∧ s3 = .int .i64 0 ∧ s8 = .bool true ∧ s9 = .bool true ∧ wr = w) (fun _ _ _ _ _ _ => 0)
  case atStart => exact ⟨rfl, rfl, rfl, rfl, rfl, rfl⟩
  case round =>
    obtain ⟨rfl, rfl, rfl, rfl, rfl, rfl⟩ := hrel
    go_wp2_with fail
    refine HI.out.mono ?_
    rintro e w2 ⟨rfl, rfl⟩
    go_wp2_with fail
    first | go_end0 | refine bodyPost_ret (results_none rfl _ _ _) rfl ?_
    exact ⟨rfl, rfl⟩

theorem sort_nil (w : World) : Calls Try.prog 49 #[.slice none 0 0] w fun e w' => e = .returned (.tuple #[]) ∧ w' = w := by
  have HL := Lib.hid (fun w' => len_any 0 (Nat.zero_le _) w')
  have hb : ((bitsLen 0 : Nat) : Int) = 0 := rfl
  have hz : ((0 : Nat) : Int) = 0 := rfl
  rw [hb, hz] at HL
  have HP := Lib.hid (pdq_nil w)
  clear hb hz
  go_enter Try.func49, Try.ntmps49
  go_wp2_with fail
  refine (HL.out _).mono ?_
  rintro e w1 ⟨rfl, rfl⟩
  go_wp2_with fail
  refine HP.out.mono ?_
  rintro e w2 ⟨rfl, rfl⟩
  go_wp2_with fail
  first | go_end0 | refine bodyPost_ret (results_none rfl _ _ _) rfl ?_
  exact ⟨rfl, rfl⟩

end Go.Proofs.Ytkcbkimconaegaa
