/-
  The appends of OctetPuts, for texts and slices that are together a little more than 2^47 bytes; the contracts of octet.PutText and of the document's Put and PutText.
  Conditions: a slice of at most 2^47 - 4096 bytes.
-/
import Derived.Test.YtpbdnfonflmncaaGreatRefRdZ
import Derived.Test.YtpbdnfonflmncaaGreatBigZ
namespace Go.Proofs.YtpbdnfonflmncaaGreat
open Go.RowKit
set_option linter.unusedVariables false
set_option linter.unusedSimpArgs false
theorem be_cons : ∀ (k n : Nat), be (k + 1) n = UInt8.ofNat (n / 256 ^ k) :: be k n
 | 0, n => by simp [be]
 | k + 1, n => by
  show be (k + 1) (n / 256) ++ [UInt8.ofNat n] = _
  rw [be_cons k (n / 256), List.cons_append, Nat.div_div_eq_div_mul, Nat.pow_succ, Nat.mul_comm 256]
  rfl
set_option maxHeartbeats 400000 in
theorem number_any (k N : Nat) (w : World) (hk : k ≤ 8) (hN : N < 18446744073709551616) :
    Calls Tryz.prog 43 #[.int .u64 N, .int .i64 k] w fun e w' => ∃ v, e = .returned v ∧ Own 5 w' w.heap.size v (be k N) ∧ Below w.heap.size w w' := by
  go_enter Tryz.func43, Tryz.ntmps43
  go_wp2_with fail
  go_loopw [0, 5, 6] (fun s0 s5 s6 wr => ∃ j : Nat, j ≤ k ∧ s6 = .int .i64 j ∧ s0 = .int .u64 (N / 256 ^ j : Nat) ∧ Own 5 wr w.heap.size s5 (be j N) ∧ Below w.heap.size w wr) (fun _ _ i _ => k - (intOf i).toNat)
  case atStart => exact ⟨0, Nat.zero_le _, rfl, by simp, Own.nil_ _ _ _, Below.refl _ _⟩
  case round =>
    obtain ⟨j, hj, rfl, rfl, ho, hbr⟩ := hrel
    by_cases hlt : j < k
    · have hx : N / 256 ^ j ≤ N := Nat.div_le_self _ _
      have hd : N / 256 ^ j / 256 = N / 256 ^ (j + 1) := by rw [Nat.div_div_eq_div_mul, Nat.pow_succ]
      have HD := Lib.hid hd
      have hbe := be_cons j N
      have HBE := Lib.hid hbe
      clear hd hbe
      generalize N / 256 ^ j = x at *
      obtain ⟨go, _, hso⟩ := ho.shows
      have hz := hbr.size
      have hjl := be_length j N
      have HJL := Lib.hid hjl
      clear hjl
      go_wp2_with (at_builtin
                   refine wpList_append8 _ rfl (.tmp 15) (.tmp 16) 28 rfl w.heap.size 5 Tryz.underlying28 info5 (.slice (some ⟨wr.heap.size, 0, none⟩) 1 1) [UInt8.ofNat x] rfl (Own.lit (w := wr) [UInt8.ofNat x] (by simp [bs, u8c]) (by simp [maxLen]) hz) go u5 (be j N) rfl (hso.keep (by simp) (fun hp => Below.heap_alloc _ _ _ (hso.lt hp))) (by rw [HJL.out]; simp; omega) (by simp; omega) ?_
                   intro v1 w1 ho1 hg1
                   have hb1 : Below w.heap.size w w1 := (hbr.alloc hz _).grown hg1 (by simp; omega) (fun k hk => by simp [Value.ownBlock] at hk; omega))
      go_roundw
      case rel => exact ⟨j + 1, by omega, by go_num, by rw [← HD.out]; go_num, by rw [HBE.out]; exact ho1, hb1⟩
      case measure => simp [intOf]; omega
    · have : j = k := by omega
      have HJ := Lib.hid this
      clear this
      go_wp2_with fail
      go_ret
      rw [HJ.out] at ho
      exact ⟨_, rfl, ho, hbr⟩
set_option maxHeartbeats 400000 in
theorem qput_yes (v : Value) (l : List UInt8) (d n : Nat) (q : Int) (w : World) (h : Shows w d v l) (hl : l.length ≤ 140737488355320) (hn : n < 18446744073709551616) (hq : num q = true) :
    Calls Tryz.prog 70 #[v, .int .u64 n, .int .i64 q] w fun e w' => ∃ v', e = .returned v' ∧ Own 5 w' w.heap.size v' (l ++ be (wd q) n) ∧ Below w.heap.size w w' := by
  have hqw : q = (wd q : Nat) := by
    have h : q = 1 ∨ q = 2 ∨ q = 4 ∨ q = 8 := by simpa [num] using hq
    rcases h with rfl | rfl | rfl | rfl <;> rfl
  have hq8 := wd_le q
  have HQ := Lib.hid hq
  have HQW := Lib.hid hqw
  clear hq hqw
  go_enter Tryz.func70, Tryz.ntmps70
  go_wp2_with (at_builtin
               refine wpList_append8 _ rfl (.tmp 8) (.tmp 9) 28 rfl w.heap.size 5 Tryz.underlying28 info5 (.slice none 0 0) [] rfl (Own.nil_ _ _ _) d v l rfl h (by simp; omega) (Nat.le_refl _) ?_
               intro v1 w1 ho1 hg1
               rw [List.nil_append] at ho1
               have hb1 : Below w.heap.size w w1 := (Below.refl _ _).grown hg1 (Nat.le_refl _) (by simp [Value.ownBlock])
               have hz1 := hb1.size)
  refine (width_yes q _ HQ.out).mono ?_
  rintro e w' ⟨rfl, rfl⟩
  go_wp2_with fail
  rw [HQW.out]
  refine (number_any (wd q) n _ hq8 hn).mono ?_
  rintro e w2 ⟨v2, rfl, ho2, hb2⟩
  have hB2 : Below w.heap.size w w2 := hb1.trans (hb2.mono hz1)
  have hz2 := hB2.size
  obtain ⟨g2, _, hs2⟩ := ho2.shows
  have ho1' : Own 5 w2 w.heap.size v1 l := ho1.keep fun k hk => hb2.block _ (ho1.block k hk).2
  have hbl := be_wd_length q n
  go_wp2_with (at_builtin
               refine wpList_append8 _ rfl (.tmp 15) (.tmp 18) 28 rfl w.heap.size 5 Tryz.underlying28 info5 v1 l rfl ho1' g2 v2 (be (wd q) n) rfl hs2 (by omega) hz2 ?_
               intro v3 w3 ho3 hg3)
  go_ret
  exact ⟨v3, rfl, ho3, hB2.grown hg3 hz2 (fun k hk => (ho1'.block k hk).1)⟩
set_option maxHeartbeats 400000 in
theorem qput_no (v : Value) (l : List UInt8) (d n : Nat) (q : Int) (w : World) (h : Shows w d v l) (hl : l.length ≤ 140737488355320) (hq : num q = false) :
    Calls Tryz.prog 70 #[v, .int .u64 n, .int .i64 q] w fun e w' => ∃ v', e = .returned v' ∧ Own 5 w' w.heap.size v' l ∧ Below w.heap.size w w' := by
  have HQ := Lib.hid hq
  clear hq
  go_enter Tryz.func70, Tryz.ntmps70
  go_wp2_with (at_builtin
               refine wpList_append8 _ rfl (.tmp 8) (.tmp 9) 28 rfl w.heap.size 5 Tryz.underlying28 info5 (.slice none 0 0) [] rfl (Own.nil_ _ _ _) d v l rfl h (by simp; omega) (Nat.le_refl _) ?_
               intro v1 w1 ho1 hg1
               rw [List.nil_append] at ho1
               have hb1 : Below w.heap.size w w1 := (Below.refl _ _).grown hg1 (Nat.le_refl _) (by simp [Value.ownBlock])
               have hz1 := hb1.size)
  refine (width_no q _ HQ.out).mono ?_
  rintro e w' ⟨rfl, rfl⟩
  go_wp2_with fail
  go_ret
  exact ⟨v1, rfl, ho1, hb1⟩
theorem qput_any (v : Value) (l : List UInt8) (d n : Nat) (q : Int) (w : World) (h : Shows w d v l) (hl : l.length ≤ 140737488355320) (hn : n < 18446744073709551616) :
  Calls Tryz.prog 70 #[v, .int .u64 n, .int .i64 q] w fun e w' => ∃ v', e = .returned v' ∧ Own 5 w' w.heap.size v' (l ++ be (wd q) n) ∧ Below w.heap.size w w' := by
 by_cases hq : num q = true
 ·exact qput_yes v l d n q w h hl hn hq
 ·have hq : num q = false := by simpa using hq
  have e : wd q = 0 := by simp [num] at hq; simp [wd, hq]
  rw [e]
  have := qput_no v l d n q w h hl hq
  simpa [be] using this
set_option maxHeartbeats 400000 in
theorem most1 (w : World) : Calls Tryz.prog 69 #[.int .i64 1] w fun e w' => e = .returned (.int .i64 255) ∧ w = w' := by
 go_enter Tryz.func69, Tryz.ntmps69
 go_wp2
 go_ret
 exact ⟨rfl, rfl⟩
set_option maxHeartbeats 400000 in
theorem qputText_long1 (v : Value) (s : ByteArray) (w : World) (hs : s.size ≤ 140737488355328) (h : 256 ≤ s.size) :
  Calls Tryz.prog 45 #[v, .string s, .int .i64 1] w fun e w' => e = .returned (.tuple #[.slice none 0 0, .int .i64 3]) ∧ w = w' := by
 have ht : decide ((255 : Int) < (s.size : Int)) = true := by simp; omega
 go_enter Tryz.func45, Tryz.ntmps45
 go_wp2_with fail
 refine (most1 _).mono ?_
 rintro e w' ⟨rfl, rfl⟩
 go_wp2_with fail
 go_ret2
 exact ⟨rfl, rfl⟩
set_option maxHeartbeats 400000 in
theorem qputText_ok1 (v : Value) (l : List UInt8) (d : Nat) (s : ByteArray) (w : World) (hv : Shows w d v l) (hl : l.length ≤ 140737488351232) (h : s.size < 256) :
    Calls Tryz.prog 45 #[v, .string s, .int .i64 1] w fun e w' => ∃ v', e = .returned (.tuple #[v', .int .i64 0]) ∧ Own 5 w' w.heap.size v' (l ++ (be 1 s.size ++ sb s)) ∧ Below w.heap.size w w' := by
  have ht : decide ((255 : Int) < (s.size : Int)) = false := by simp; omega
  have hbl := be_length 1 s.size
  have HBL := Lib.hid hbl
  clear hbl
  go_enter Tryz.func45, Tryz.ntmps45
  go_wp2_with fail
  refine (most1 _).mono ?_
  rintro e w' ⟨rfl, rfl⟩
  go_wp2_with fail
  refine (qput_any v l d s.size 1 _ hv (by omega) (by omega)).mono ?_
  rintro e w1 ⟨v1, rfl, ho1, hb1⟩
  have ho1' : Own 5 w1 w.heap.size v1 (l ++ be 1 s.size) := ho1
  have hz1 := hb1.size
  clear ho1
  go_wp2_with (at_builtin
               refine wpList_big8s _ rfl (.tmp 28) (.tmp 29) 28 9 rfl w.heap.size 5 Tryz.underlying28 Tryz.underlying9 info5 v1 _ rfl ho1' s rfl (by rw [List.length_append, HBL.out]; omega) hz1 ?_
               intro v2 w2 ho2 hg2
               rw [List.append_assoc] at ho2
               have hb2 : Below w.heap.size w w2 := hb1.grown hg2 hz1 (fun k hk => (ho1'.block k hk).1))
  go_ret2
  exact ⟨v2, rfl, ho2, hb2⟩
set_option maxHeartbeats 400000 in
theorem most2 (w : World) : Calls Tryz.prog 69 #[.int .i64 2] w fun e w' => e = .returned (.int .i64 65535) ∧ w = w' := by
 go_enter Tryz.func69, Tryz.ntmps69
 go_wp2
 go_ret
 exact ⟨rfl, rfl⟩
set_option maxHeartbeats 400000 in
theorem qputText_long2 (v : Value) (s : ByteArray) (w : World) (hs : s.size ≤ 140737488355328) (h : 65536 ≤ s.size) :
  Calls Tryz.prog 45 #[v, .string s, .int .i64 2] w fun e w' => e = .returned (.tuple #[.slice none 0 0, .int .i64 3]) ∧ w = w' := by
 have ht : decide ((65535 : Int) < (s.size : Int)) = true := by simp; omega
 go_enter Tryz.func45, Tryz.ntmps45
 go_wp2_with fail
 refine (most2 _).mono ?_
 rintro e w' ⟨rfl, rfl⟩
 go_wp2_with fail
 go_ret2
 exact ⟨rfl, rfl⟩
set_option maxHeartbeats 400000 in
theorem qputText_ok2 (v : Value) (l : List UInt8) (d : Nat) (s : ByteArray) (w : World) (hv : Shows w d v l) (hl : l.length ≤ 140737488351232) (h : s.size < 65536) :
    Calls Tryz.prog 45 #[v, .string s, .int .i64 2] w fun e w' => ∃ v', e = .returned (.tuple #[v', .int .i64 0]) ∧ Own 5 w' w.heap.size v' (l ++ (be 2 s.size ++ sb s)) ∧ Below w.heap.size w w' := by
  have ht : decide ((65535 : Int) < (s.size : Int)) = false := by simp; omega
  have hbl := be_length 2 s.size
  have HBL := Lib.hid hbl
  clear hbl
  go_enter Tryz.func45, Tryz.ntmps45
  go_wp2_with fail
  refine (most2 _).mono ?_
  rintro e w' ⟨rfl, rfl⟩
  go_wp2_with fail
  refine (qput_any v l d s.size 2 _ hv (by omega) (by omega)).mono ?_
  rintro e w1 ⟨v1, rfl, ho1, hb1⟩
  have ho1' : Own 5 w1 w.heap.size v1 (l ++ be 2 s.size) := ho1
  have hz1 := hb1.size
  clear ho1
  go_wp2_with (at_builtin
               refine wpList_big8s _ rfl (.tmp 28) (.tmp 29) 28 9 rfl w.heap.size 5 Tryz.underlying28 Tryz.underlying9 info5 v1 _ rfl ho1' s rfl (by rw [List.length_append, HBL.out]; omega) hz1 ?_
               intro v2 w2 ho2 hg2
               rw [List.append_assoc] at ho2
               have hb2 : Below w.heap.size w w2 := hb1.grown hg2 hz1 (fun k hk => (ho1'.block k hk).1))
  go_ret2
  exact ⟨v2, rfl, ho2, hb2⟩
end Go.Proofs.YtpbdnfonflmncaaGreat
