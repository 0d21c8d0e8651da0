/-
  The contracts of octet.digits and octet.joined: what they return, as lists of bytes, in new memory.
  Conditions: none but that the joined bytes are at most 2^47.
-/
import Derived.Test.YtmpcddljgcckcaaDoorP
namespace Go.Proofs.YtmpcddljgcckcaaDoor
open Go.RowKit
set_option linter.unusedVariables false
set_option linter.unusedSimpArgs false

/-- The lowest k bytes of n, the highest first. -/
def be : Nat → Nat → List UInt8
  | 0, _ => []
  | k + 1, n => be k (n / 256) ++ [UInt8.ofNat n]

theorem be_length : ∀ k n, (be k n).length = k
  | 0, _ => rfl
  | k + 1, n => by simp [be, be_length k]

/-- A width that an integer may have, as a number of bytes; else 0. -/
def wd (w : Int) : Nat := if w = 1 then 1 else if w = 2 then 2 else if w = 4 then 4 else if w = 8 then 8 else 0

theorem wd_le (w : Int) : wd w ≤ 8 := by unfold wd; split <;> (try omega); split <;> (try omega); split <;> (try omega); split <;> omega

set_option maxHeartbeats 400000 in
theorem digits1 (n : Nat) (w : World) :
    Calls Tryd.prog 39 #[.int .u64 n, .int .i64 1] w fun e w' => ∃ v, e = .returned v ∧ Own 5 w' w.heap.size v (be 1 n) ∧ Below w.heap.size w w' := by
  go_enter Tryd.func39, Tryd.ntmps39
  go_wp2_with (at_builtin
               refine wpList_append8 _ rfl (.tmp 45) (.tmp 48) 31 rfl w.heap.size 5 Tryd.underlying31 info5 (.slice none 0 0) [] rfl (Own.nil_ _ _ _) w.heap.size (.slice (some ⟨w.heap.size, 0, none⟩) 1 1) [UInt8.ofNat n] rfl (Shows.lit (w := w) [UInt8.ofNat n] (by simp [bs, u8c]) (by simp [maxLen])) (by simp) (by simp) ?_
               intro v1 w1 ho1 hg1)
  go_ret
  exact ⟨v1, rfl, ho1, ((Below.refl _ _).alloc (Nat.le_refl _) _).grown hg1 (by simp) (by simp [Value.ownBlock])⟩

set_option maxHeartbeats 400000 in
theorem digits2 (n : Nat) (w : World) :
    Calls Tryd.prog 39 #[.int .u64 n, .int .i64 2] w fun e w' => ∃ v, e = .returned v ∧ Own 5 w' w.heap.size v (be 2 n) ∧ Below w.heap.size w w' := by
  go_enter Tryd.func39, Tryd.ntmps39
  go_wp2_with (first
    | (at_builtin
       refine wpList_append8 _ rfl (.tmp 39) (.tmp 43) 31 rfl w.heap.size 5 Tryd.underlying31 info5 (.slice none 0 0) [] rfl (Own.nil_ _ _ _) w.heap.size (.slice (some ⟨w.heap.size, 0, none⟩) 1 1) [UInt8.ofNat (n / 256)] rfl (Shows.lit (w := w) [UInt8.ofNat (n / 256)] (by simp [bs, u8c]) (by simp [maxLen])) (by simp) (by simp) ?_
       intro v1 w1 ho1 hg1
       have hb1 : Below w.heap.size w w1 := ((Below.refl _ _).alloc (Nat.le_refl _) _).grown hg1 (by simp) (by simp [Value.ownBlock])
       have hz1 := hb1.size)
    | (at_builtin
       refine wpList_append8 _ rfl (.tmp 45) (.tmp 48) 31 rfl w.heap.size 5 Tryd.underlying31 info5 v1 _ rfl (ho1.alloc_ _) w1.heap.size (.slice (some ⟨w1.heap.size, 0, none⟩) 1 1) [UInt8.ofNat n] rfl (Shows.lit (w := w1) [UInt8.ofNat n] (by simp [bs, u8c]) (by simp [maxLen])) (by simp) (by simp; omega) ?_
       intro v2 w2 ho2 hg2))
  go_ret
  exact ⟨v2, rfl, ho2, frame1 hb1 ho1 hg2⟩

set_option maxHeartbeats 400000 in
theorem digits4 (n : Nat) (w : World) :
    Calls Tryd.prog 39 #[.int .u64 n, .int .i64 4] w fun e w' => ∃ v, e = .returned v ∧ Own 5 w' w.heap.size v (be 4 n) ∧ Below w.heap.size w w' := by
  go_enter Tryd.func39, Tryd.ntmps39
  go_wp2_with (first
    | (at_builtin
       refine wpList_append8 _ rfl (.tmp 30) (.tmp 37) 31 rfl w.heap.size 5 Tryd.underlying31 info5 (.slice none 0 0) [] rfl (Own.nil_ _ _ _) w.heap.size (.slice (some ⟨w.heap.size, 0, none⟩) 2 2) [UInt8.ofNat (n / 16777216), UInt8.ofNat (n / 65536)] rfl (Shows.lit (w := w) [UInt8.ofNat (n / 16777216), UInt8.ofNat (n / 65536)] (by simp [bs, u8c]) (by simp [maxLen])) (by simp) (by simp) ?_
       intro v0 w0 ho0 hg0
       have hb0 : Below w.heap.size w w0 := ((Below.refl _ _).alloc (Nat.le_refl _) _).grown hg0 (by simp) (by simp [Value.ownBlock])
       have hz0 := hb0.size)
    | (at_builtin
       refine wpList_append8 _ rfl (.tmp 39) (.tmp 43) 31 rfl w.heap.size 5 Tryd.underlying31 info5 v0 _ rfl (ho0.alloc_ _) w0.heap.size (.slice (some ⟨w0.heap.size, 0, none⟩) 1 1) [UInt8.ofNat (n / 256)] rfl (Shows.lit (w := w0) [UInt8.ofNat (n / 256)] (by simp [bs, u8c]) (by simp [maxLen])) (by simp) (by simp; omega) ?_
       intro v1 w1 ho1 hg1
       have hb1 : Below w.heap.size w w1 := frame1 hb0 ho0 hg1
       have hz1 := hb1.size)
    | (at_builtin
       refine wpList_append8 _ rfl (.tmp 45) (.tmp 48) 31 rfl w.heap.size 5 Tryd.underlying31 info5 v1 _ rfl (ho1.alloc_ _) w1.heap.size (.slice (some ⟨w1.heap.size, 0, none⟩) 1 1) [UInt8.ofNat n] rfl (Shows.lit (w := w1) [UInt8.ofNat n] (by simp [bs, u8c]) (by simp [maxLen])) (by simp) (by simp; omega) ?_
       intro v2 w2 ho2 hg2))
  go_ret
  exact ⟨v2, rfl, by simpa [be, Nat.div_div_eq_div_mul] using ho2, frame1 hb1 ho1 hg2⟩

set_option maxHeartbeats 800000 in
theorem digits8 (n : Nat) (w : World) :
    Calls Tryd.prog 39 #[.int .u64 n, .int .i64 8] w fun e w' => ∃ v, e = .returned v ∧ Own 5 w' w.heap.size v (be 8 n) ∧ Below w.heap.size w w' := by
  go_enter Tryd.func39, Tryd.ntmps39
  go_wp2_with (first
    | (at_builtin
       refine wpList_append8 _ rfl (.tmp 15) (.tmp 28) 31 rfl w.heap.size 5 Tryd.underlying31 info5 (.slice none 0 0) [] rfl (Own.nil_ _ _ _) w.heap.size (.slice (some ⟨w.heap.size, 0, none⟩) 4 4) [UInt8.ofNat (n / 72057594037927936), UInt8.ofNat (n / 281474976710656), UInt8.ofNat (n / 1099511627776), UInt8.ofNat (n / 4294967296)] rfl (Shows.lit (w := w) [UInt8.ofNat (n / 72057594037927936), UInt8.ofNat (n / 281474976710656), UInt8.ofNat (n / 1099511627776), UInt8.ofNat (n / 4294967296)] (by simp [bs, u8c]) (by simp [maxLen])) (by simp) (by simp) ?_
       intro v9 w9 ho9 hg9
       have hb9 : Below w.heap.size w w9 := ((Below.refl _ _).alloc (Nat.le_refl _) _).grown hg9 (by simp) (by simp [Value.ownBlock])
       have hz9 := hb9.size)
    | (at_builtin
       refine wpList_append8 _ rfl (.tmp 30) (.tmp 37) 31 rfl w.heap.size 5 Tryd.underlying31 info5 v9 _ rfl (ho9.alloc_ _) w9.heap.size (.slice (some ⟨w9.heap.size, 0, none⟩) 2 2) [UInt8.ofNat (n / 16777216), UInt8.ofNat (n / 65536)] rfl (Shows.lit (w := w9) [UInt8.ofNat (n / 16777216), UInt8.ofNat (n / 65536)] (by simp [bs, u8c]) (by simp [maxLen])) (by simp) (by simp; omega) ?_
       intro v0 w0 ho0 hg0
       have hb0 : Below w.heap.size w w0 := frame1 hb9 ho9 hg0
       have hz0 := hb0.size)
    | (at_builtin
       refine wpList_append8 _ rfl (.tmp 39) (.tmp 43) 31 rfl w.heap.size 5 Tryd.underlying31 info5 v0 _ rfl (ho0.alloc_ _) w0.heap.size (.slice (some ⟨w0.heap.size, 0, none⟩) 1 1) [UInt8.ofNat (n / 256)] rfl (Shows.lit (w := w0) [UInt8.ofNat (n / 256)] (by simp [bs, u8c]) (by simp [maxLen])) (by simp) (by simp; omega) ?_
       intro v1 w1 ho1 hg1
       have hb1 : Below w.heap.size w w1 := frame1 hb0 ho0 hg1
       have hz1 := hb1.size)
    | (at_builtin
       refine wpList_append8 _ rfl (.tmp 45) (.tmp 48) 31 rfl w.heap.size 5 Tryd.underlying31 info5 v1 _ rfl (ho1.alloc_ _) w1.heap.size (.slice (some ⟨w1.heap.size, 0, none⟩) 1 1) [UInt8.ofNat n] rfl (Shows.lit (w := w1) [UInt8.ofNat n] (by simp [bs, u8c]) (by simp [maxLen])) (by simp) (by simp; omega) ?_
       intro v2 w2 ho2 hg2))
  go_ret
  exact ⟨v2, rfl, by simpa [be, Nat.div_div_eq_div_mul] using ho2, frame1 hb1 ho1 hg2⟩

set_option maxHeartbeats 400000 in
theorem digits0 (n : Nat) (q : Int) (h8 : (q == 8) = false) (h4 : (q == 4) = false) (h2 : (q == 2) = false) (h1 : (q == 1) = false) (w : World) :
    Calls Tryd.prog 39 #[.int .u64 n, .int .i64 q] w fun e w' => ∃ v, e = .returned v ∧ Own 5 w' w.heap.size v [] ∧ Below w.heap.size w w' := by
  go_enter Tryd.func39, Tryd.ntmps39
  go_wp2
  go_ret
  exact ⟨_, rfl, Own.nil_ _ _ _, Below.refl _ _⟩

theorem digits_any (n : Nat) (q : Int) (w : World) :
    Calls Tryd.prog 39 #[.int .u64 n, .int .i64 q] w fun e w' => ∃ v, e = .returned v ∧ Own 5 w' w.heap.size v (be (wd q) n) ∧ Below w.heap.size w w' := by
  by_cases h1 : q = 1
  · subst h1; exact digits1 n w
  by_cases h2 : q = 2
  · subst h2; exact digits2 n w
  by_cases h4 : q = 4
  · subst h4; exact digits4 n w
  by_cases h8 : q = 8
  · subst h8; exact digits8 n w
  have e : wd q = 0 := by simp [wd, h1, h2, h4, h8]
  rw [e]
  exact digits0 n q (by simpa using h8) (by simpa using h4) (by simpa using h2) (by simpa using h1) w

end Go.Proofs.YtmpcddljgcckcaaDoor
