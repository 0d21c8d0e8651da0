/-
  The appends of OctetPuts, for texts and slices that are together a little more than 2^47 bytes; the contracts of octet.PutText and of the document's Put and PutText.
  Conditions: a slice of at most 2^47 - 4096 bytes.
-/
import Derived.Test.YtpmafabphlejeaaGreatRefRdZ
import Derived.Test.YtpmafabphlejeaaGreatBigZ
namespace Go.Proofs.YtpmafabphlejeaaGreat
open Go.RowKit
set_option linter.unusedVariables false
set_option linter.unusedSimpArgs false

set_option maxHeartbeats 400000 in
theorem joined_big_s (A1 A2 : Option Addr) (c1 c2 n1 n2 : Nat) (l1 l2 : List UInt8) (d1 d2 : Nat) (w : World) (e1 : l1.length = n1) (e2 : l2.length = n2) (h1 : Shows w d1 (.slice A1 n1 c1) l1) (h2 : Shows w d2 (.slice A2 n2 c2) l2) (hl : n1 + n2 ≤ 140746078289920) :
    Calls Tryz.prog 133 #[.slice A1 n1 c1, .slice A2 n2 c2] w fun e w' => ∃ v, e = .returned v ∧ Own 5 w' w.heap.size v (l1 ++ l2) ∧ Below w.heap.size w w' := by
  have E1 := Lib.hid e1
  have E2 := Lib.hid e2
  clear e1 e2
  obtain ⟨i, hi, hz, hs, hb⟩ := info_parts info5
  have hby : i.bytes * (n1 + n2) ≤ 281474976710656 := by rw [hb]; omega
  have HI := Lib.hid hi
  have HZ := Lib.hid hz
  have HS := Lib.hid hs
  clear hi hz hs hb
  go_enter Tryz.func133, Tryz.ntmps133
  go_wp2_with (first
    | (at_make
       refine wpList_make_own _ rfl (.const (.int .i64 0)) (.tmp 10) 133 rfl w.heap.size 5 i (.int .u8 0) 1 Tryz.underlying133 HI.out HZ.out HS.out .i64 .i64 _ (n1 + n2) rfl rfl (by omega) hby (by simp only [maxLen]; omega) (Nat.le_refl _) ?_
       intro w1 ho1' hg1
       have ho1 : Own 5 w1 w.heap.size (.slice (some ⟨w.heap.size, 0, none⟩) 0 (n1 + n2)) [] := ho1'
       clear ho1'
       have hb1 : Below w.heap.size w w1 := (Below.refl _ _).grown hg1 (Nat.le_refl _) (by simp)
       have hz1 := hb1.size
       have hd1 := h1.grown hg1 (by simp)
       have hd2 := h2.grown hg1 (by simp))
    | (at_builtin
       refine wpList_big8 _ rfl (.tmp 12) (.tmp 13) 133 rfl w.heap.size 5 Tryz.underlying133 info5 _ [] rfl ho1 d1 (.slice A1 n1 c1) l1 rfl hd1 (by simp [E1.out]; omega) hz1 ?_
       intro v2 w2 ho2 hg2
       have hb2 : Below w.heap.size w w2 := hb1.grown hg2 hz1 (fun k hk => (ho1.block k hk).1)
       have hz2 := hb2.size
       have hd3 : Shows w2 d2 (.slice A2 n2 c2) l2 := h2.keep hz2 (fun hp => hb2.block _ (h2.lt hp)))
    | (at_builtin
       refine wpList_big8 _ rfl (.tmp 15) (.tmp 16) 133 rfl w.heap.size 5 Tryz.underlying133 info5 v2 _ rfl ho2 d2 (.slice A2 n2 c2) l2 rfl hd3 (by simp [E1.out, E2.out]; omega) hz2 ?_
       intro v3 w3 ho3 hg3))
  go_ret
  exact ⟨v3, rfl, ho3, hb2.grown hg3 hz2 (fun k hk => (ho2.block k hk).1)⟩

theorem joined_big (v1 v2 : Value) (l1 l2 : List UInt8) (d1 d2 : Nat) (w : World) (h1 : Shows w d1 v1 l1) (h2 : Shows w d2 v2 l2) (hl : l1.length + l2.length ≤ 140746078289920) :
    Calls Tryz.prog 133 #[v1, v2] w fun e w' => ∃ v, e = .returned v ∧ Own 5 w' w.heap.size v (l1 ++ l2) ∧ Below w.heap.size w w' := by
  have k1 := h1
  have k2 := h2
  obtain ⟨A1, c1, rfl, _⟩ := h1
  obtain ⟨A2, c2, rfl, _⟩ := h2
  exact joined_big_s A1 A2 c1 c2 _ _ l1 l2 d1 d2 w rfl rfl k1 k2 hl

theorem be_cons : ∀ (k n : Nat), be (k + 1) n = UInt8.ofNat (n / 256 ^ k) :: be k n
  | 0, n => by simp [be]
  | k + 1, n => by
    show be (k + 1) (n / 256) ++ [UInt8.ofNat n] = _
    rw [be_cons k (n / 256), List.cons_append, Nat.div_div_eq_div_mul, Nat.pow_succ, Nat.mul_comm 256]
    rfl

set_option maxHeartbeats 400000 in
theorem putText_big1 (v : Value) (l : List UInt8) (d : Nat) (s : ByteArray) (w : World) (hv : Shows w d v l) (hl : l.length ≤ 140737488351232) (h : s.size < 256) :
    Calls Tryz.prog 119 #[v, .string s, .int .i64 1] w fun e w' => ∃ v', e = .returned (.tuple #[v', .int .i64 0]) ∧ Own 5 w' w.heap.size v' (l ++ (be 1 s.size ++ sb s)) ∧ Below w.heap.size w w' := by
  have ht : ((s.size : Int) / 256 != 0) = false := by simp; omega
  have hsl := sb_length s
  have HSL := Lib.hid hsl
  clear hsl
  go_enter Tryz.func119, Tryz.ntmps119
  go_wp2_with fail
  refine (isText_yes 1 _ rfl).mono ?_
  rintro e w' ⟨rfl, rfl⟩
  go_wp2_with fail
  refine (digits_any s.size 1 _).mono ?_
  rintro e w1 ⟨v1, rfl, ho1, hb1⟩
  have hz1 := hb1.size
  go_wp2_with (at_builtin
               refine wpList_append8s _ rfl (.tmp 23) (.tmp 24) 133 9 rfl w.heap.size 5 Tryz.underlying133 Tryz.underlying9 info5 v1 _ rfl ho1 s rfl (by rw [be_length]; have := wd_le 1; omega) hz1 ?_
               intro v2 w2 ho2 hg2
               have hb2 : Below w.heap.size w w2 := hb1.grown hg2 hz1 (fun k hk => (ho1.block k hk).1)
               have hz2 := hb2.size)
  obtain ⟨g2, _, hs2⟩ := ho2.shows
  refine (joined_big v v2 l _ d g2 w2 (hv.keep hz2 fun hp => hb2.block _ (hv.lt hp)) hs2 (by rw [List.length_append, be_length, HSL.out]; have := wd_le 1; omega)).mono ?_
  rintro e w3 ⟨v3, rfl, ho3, hb3⟩
  go_wp2_with fail
  go_ret2
  exact ⟨v3, rfl, ho3.mono hz2, hb2.trans (hb3.mono hz2)⟩

set_option maxHeartbeats 400000 in
theorem putText_big2 (v : Value) (l : List UInt8) (d : Nat) (s : ByteArray) (w : World) (hv : Shows w d v l) (hl : l.length ≤ 140737488351232) (h : s.size < 65536) :
    Calls Tryz.prog 119 #[v, .string s, .int .i64 2] w fun e w' => ∃ v', e = .returned (.tuple #[v', .int .i64 0]) ∧ Own 5 w' w.heap.size v' (l ++ (be 2 s.size ++ sb s)) ∧ Below w.heap.size w w' := by
  have ht : ((s.size : Int) / 65536 != 0) = false := by simp; omega
  have hsl := sb_length s
  have HSL := Lib.hid hsl
  clear hsl
  go_enter Tryz.func119, Tryz.ntmps119
  go_wp2_with fail
  refine (isText_yes 2 _ rfl).mono ?_
  rintro e w' ⟨rfl, rfl⟩
  go_wp2_with fail
  refine (digits_any s.size 2 _).mono ?_
  rintro e w1 ⟨v1, rfl, ho1, hb1⟩
  have hz1 := hb1.size
  go_wp2_with (at_builtin
               refine wpList_append8s _ rfl (.tmp 23) (.tmp 24) 133 9 rfl w.heap.size 5 Tryz.underlying133 Tryz.underlying9 info5 v1 _ rfl ho1 s rfl (by rw [be_length]; have := wd_le 2; omega) hz1 ?_
               intro v2 w2 ho2 hg2
               have hb2 : Below w.heap.size w w2 := hb1.grown hg2 hz1 (fun k hk => (ho1.block k hk).1)
               have hz2 := hb2.size)
  obtain ⟨g2, _, hs2⟩ := ho2.shows
  refine (joined_big v v2 l _ d g2 w2 (hv.keep hz2 fun hp => hb2.block _ (hv.lt hp)) hs2 (by rw [List.length_append, be_length, HSL.out]; have := wd_le 2; omega)).mono ?_
  rintro e w3 ⟨v3, rfl, ho3, hb3⟩
  go_wp2_with fail
  go_ret2
  exact ⟨v3, rfl, ho3.mono hz2, hb2.trans (hb3.mono hz2)⟩

set_option maxHeartbeats 400000 in
theorem putText_big4 (v : Value) (l : List UInt8) (d : Nat) (s : ByteArray) (w : World) (hv : Shows w d v l) (hl : l.length ≤ 140737488351232) (h : s.size < 4294967296) :
    Calls Tryz.prog 119 #[v, .string s, .int .i64 4] w fun e w' => ∃ v', e = .returned (.tuple #[v', .int .i64 0]) ∧ Own 5 w' w.heap.size v' (l ++ (be 4 s.size ++ sb s)) ∧ Below w.heap.size w w' := by
  have ht : ((s.size : Int) / 4294967296 != 0) = false := by simp; omega
  have hsl := sb_length s
  have HSL := Lib.hid hsl
  clear hsl
  go_enter Tryz.func119, Tryz.ntmps119
  go_wp2_with fail
  refine (isText_yes 4 _ rfl).mono ?_
  rintro e w' ⟨rfl, rfl⟩
  go_wp2_with fail
  refine (digits_any s.size 4 _).mono ?_
  rintro e w1 ⟨v1, rfl, ho1, hb1⟩
  have hz1 := hb1.size
  go_wp2_with (at_builtin
               refine wpList_append8s _ rfl (.tmp 23) (.tmp 24) 133 9 rfl w.heap.size 5 Tryz.underlying133 Tryz.underlying9 info5 v1 _ rfl ho1 s rfl (by rw [be_length]; have := wd_le 4; omega) hz1 ?_
               intro v2 w2 ho2 hg2
               have hb2 : Below w.heap.size w w2 := hb1.grown hg2 hz1 (fun k hk => (ho1.block k hk).1)
               have hz2 := hb2.size)
  obtain ⟨g2, _, hs2⟩ := ho2.shows
  refine (joined_big v v2 l _ d g2 w2 (hv.keep hz2 fun hp => hb2.block _ (hv.lt hp)) hs2 (by rw [List.length_append, be_length, HSL.out]; have := wd_le 4; omega)).mono ?_
  rintro e w3 ⟨v3, rfl, ho3, hb3⟩
  go_wp2_with fail
  go_ret2
  exact ⟨v3, rfl, ho3.mono hz2, hb2.trans (hb3.mono hz2)⟩

set_option maxHeartbeats 400000 in
theorem number_any (k N : Nat) (w : World) (hk : k ≤ 8) (hN : N < 18446744073709551616) :
    Calls Tryz.prog 125 #[.int .u64 N, .int .i64 k] w fun e w' => ∃ v, e = .returned v ∧ Own 5 w' w.heap.size v (be k N) ∧ Below w.heap.size w w' := by
  go_enter Tryz.func125, Tryz.ntmps125
  go_wp2_with fail
  go_loopw [0, 5, 6] (fun s0 s5 s6 wr => ∃ j : Nat, j ≤ k ∧ s6 = .int .i64 j ∧ s0 = .int .u64 (N / 256 ^ j : Nat) ∧ Own 5 wr w.heap.size s5 (be j N) ∧ Below w.heap.size w wr) (fun _ _ i _ => k - (intOf i).toNat)
  case atStart => exact ⟨0, Nat.zero_le _, rfl, by simp, Own.nil_ _ _ _, Below.refl _ _⟩
  case round =>
    obtain ⟨j, hj, rfl, rfl, ho, hbr⟩ := hrel
    by_cases hlt : j < k
    · have hx : N / 256 ^ j ≤ N := Nat.div_le_self _ _
      have hd : N / 256 ^ j / 256 = N / 256 ^ (j + 1) := by rw [Nat.div_div_eq_div_mul, Nat.pow_succ]
      have HD := Lib.hid hd
      have hbe := be_cons j N
      have HBE := Lib.hid hbe
      clear hd hbe
      generalize N / 256 ^ j = x at *
      obtain ⟨go, _, hso⟩ := ho.shows
      have hz := hbr.size
      have hjl := be_length j N
      have HJL := Lib.hid hjl
      clear hjl
      go_wp2_with (at_builtin
                   refine wpList_append8 _ rfl (.tmp 15) (.tmp 16) 133 rfl w.heap.size 5 Tryz.underlying133 info5 (.slice (some ⟨wr.heap.size, 0, none⟩) 1 1) [UInt8.ofNat x] rfl (Own.lit (w := wr) [UInt8.ofNat x] (by simp [bs, u8c]) (by simp [maxLen]) hz) go u5 (be j N) rfl (hso.keep (by simp) (fun hp => Below.heap_alloc _ _ _ (hso.lt hp))) (by rw [HJL.out]; simp; omega) (by simp; omega) ?_
                   intro v1 w1 ho1 hg1
                   have hb1 : Below w.heap.size w w1 := (hbr.alloc hz _).grown hg1 (by simp; omega) (fun k hk => by simp [Value.ownBlock] at hk; omega))
      go_roundw
      case rel => exact ⟨j + 1, by omega, by go_num, by rw [← HD.out]; go_num, by rw [HBE.out]; exact ho1, hb1⟩
      case measure => simp [intOf]; omega
    · have : j = k := by omega
      have HJ := Lib.hid this
      clear this
      go_wp2_with fail
      go_ret
      rw [HJ.out] at ho
      exact ⟨_, rfl, ho, hbr⟩

end Go.Proofs.YtpmafabphlejeaaGreat
