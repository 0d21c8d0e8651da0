/-
  Texts, together: OctA, OctB, OctC, OctD, OctE, OctS.
  Conditions: none but sizes.
-/
import Derived.Test.YtdjahdnaihijjaaGreatDoorMemZ
import Derived.Deep.QuietTactic
import Derived.BigQuiet
import Derived.Laws.BitsAllLaws
import Derived.Test.YtdjahdnaihijjaaGreatDoorRowkitZ
/-
  The contracts of octet.digits and octet.joined: what they return, as lists of bytes, in new memory.
  Conditions: none but that the joined bytes are at most 2^47.
-/
namespace Go.Proofs.YtdjahdnaihijjaaGreatDoor
open Go.RowKit
set_option linter.unusedVariables false
set_option linter.unusedSimpArgs false

/-- The lowest k bytes of n, the highest first. -/
def be : Nat → Nat → List UInt8
  | 0, _ => []
  | k + 1, n => be k (n / 256) ++ [UInt8.ofNat n]

theorem be_length : ∀ k n, (be k n).length = k
  | 0, _ => rfl
  | k + 1, n => by simp [be, be_length k]

/-- A width that an integer may have, as a number of bytes; else 0. -/
def wd (w : Int) : Nat := if w = 1 then 1 else if w = 2 then 2 else if w = 4 then 4 else if w = 8 then 8 else 0

theorem wd_le (w : Int) : wd w ≤ 8 := by unfold wd; split <;> (try omega); split <;> (try omega); split <;> (try omega); split <;> omega

set_option maxHeartbeats 400000 in
theorem digits1 (n : Nat) (w : World) :
    Calls Tryz.prog 39 #[.int .u64 n, .int .i64 1] w fun e w' => ∃ v, e = .returned v ∧ Own 5 w' w.heap.size v (be 1 n) ∧ Below w.heap.size w w' := by
  go_enter Tryz.func39, Tryz.ntmps39
  go_wp2_with (at_builtin
               refine wpList_append8 _ rfl (.tmp 45) (.tmp 48) 47 rfl w.heap.size 5 Tryz.underlying47 info5 (.slice none 0 0) [] rfl (Own.nil_ _ _ _) w.heap.size (.slice (some ⟨w.heap.size, 0, none⟩) 1 1) [UInt8.ofNat n] rfl (Shows.lit (w := w) [UInt8.ofNat n] (by simp [bs, u8c]) (by simp [maxLen])) (by simp) (by simp) ?_
               intro v1 w1 ho1 hg1)
  go_ret
  exact ⟨v1, rfl, ho1, ((Below.refl _ _).alloc (Nat.le_refl _) _).grown hg1 (by simp) (by simp [Value.ownBlock])⟩

set_option maxHeartbeats 400000 in
theorem digits2 (n : Nat) (w : World) :
    Calls Tryz.prog 39 #[.int .u64 n, .int .i64 2] w fun e w' => ∃ v, e = .returned v ∧ Own 5 w' w.heap.size v (be 2 n) ∧ Below w.heap.size w w' := by
  go_enter Tryz.func39, Tryz.ntmps39
  go_wp2_with (first
    | (at_builtin
       refine wpList_append8 _ rfl (.tmp 39) (.tmp 43) 47 rfl w.heap.size 5 Tryz.underlying47 info5 (.slice none 0 0) [] rfl (Own.nil_ _ _ _) w.heap.size (.slice (some ⟨w.heap.size, 0, none⟩) 1 1) [UInt8.ofNat (n / 256)] rfl (Shows.lit (w := w) [UInt8.ofNat (n / 256)] (by simp [bs, u8c]) (by simp [maxLen])) (by simp) (by simp) ?_
       intro v1 w1 ho1 hg1
       have hb1 : Below w.heap.size w w1 := ((Below.refl _ _).alloc (Nat.le_refl _) _).grown hg1 (by simp) (by simp [Value.ownBlock])
       have hz1 := hb1.size)
    | (at_builtin
       refine wpList_append8 _ rfl (.tmp 45) (.tmp 48) 47 rfl w.heap.size 5 Tryz.underlying47 info5 v1 _ rfl (ho1.alloc_ _) w1.heap.size (.slice (some ⟨w1.heap.size, 0, none⟩) 1 1) [UInt8.ofNat n] rfl (Shows.lit (w := w1) [UInt8.ofNat n] (by simp [bs, u8c]) (by simp [maxLen])) (by simp) (by simp; omega) ?_
       intro v2 w2 ho2 hg2))
  go_ret
  exact ⟨v2, rfl, ho2, frame1 hb1 ho1 hg2⟩

set_option maxHeartbeats 400000 in
theorem digits4 (n : Nat) (w : World) :
    Calls Tryz.prog 39 #[.int .u64 n, .int .i64 4] w fun e w' => ∃ v, e = .returned v ∧ Own 5 w' w.heap.size v (be 4 n) ∧ Below w.heap.size w w' := by
  go_enter Tryz.func39, Tryz.ntmps39
  go_wp2_with (first
    | (at_builtin
       refine wpList_append8 _ rfl (.tmp 30) (.tmp 37) 47 rfl w.heap.size 5 Tryz.underlying47 info5 (.slice none 0 0) [] rfl (Own.nil_ _ _ _) w.heap.size (.slice (some ⟨w.heap.size, 0, none⟩) 2 2) [UInt8.ofNat (n / 16777216), UInt8.ofNat (n / 65536)] rfl (Shows.lit (w := w) [UInt8.ofNat (n / 16777216), UInt8.ofNat (n / 65536)] (by simp [bs, u8c]) (by simp [maxLen])) (by simp) (by simp) ?_
       intro v0 w0 ho0 hg0
       have hb0 : Below w.heap.size w w0 := ((Below.refl _ _).alloc (Nat.le_refl _) _).grown hg0 (by simp) (by simp [Value.ownBlock])
       have hz0 := hb0.size)
    | (at_builtin
       refine wpList_append8 _ rfl (.tmp 39) (.tmp 43) 47 rfl w.heap.size 5 Tryz.underlying47 info5 v0 _ rfl (ho0.alloc_ _) w0.heap.size (.slice (some ⟨w0.heap.size, 0, none⟩) 1 1) [UInt8.ofNat (n / 256)] rfl (Shows.lit (w := w0) [UInt8.ofNat (n / 256)] (by simp [bs, u8c]) (by simp [maxLen])) (by simp) (by simp; omega) ?_
       intro v1 w1 ho1 hg1
       have hb1 : Below w.heap.size w w1 := frame1 hb0 ho0 hg1
       have hz1 := hb1.size)
    | (at_builtin
       refine wpList_append8 _ rfl (.tmp 45) (.tmp 48) 47 rfl w.heap.size 5 Tryz.underlying47 info5 v1 _ rfl (ho1.alloc_ _) w1.heap.size (.slice (some ⟨w1.heap.size, 0, none⟩) 1 1) [UInt8.ofNat n] rfl (Shows.lit (w := w1) [UInt8.ofNat n] (by simp [bs, u8c]) (by simp [maxLen])) (by simp) (by simp; omega) ?_
       intro v2 w2 ho2 hg2))
  go_ret
  exact ⟨v2, rfl, by simpa [be, Nat.div_div_eq_div_mul] using ho2, frame1 hb1 ho1 hg2⟩

set_option maxHeartbeats 800000 in
theorem digits8 (n : Nat) (w : World) :
    Calls Tryz.prog 39 #[.int .u64 n, .int .i64 8] w fun e w' => ∃ v, e = .returned v ∧ Own 5 w' w.heap.size v (be 8 n) ∧ Below w.heap.size w w' := by
  go_enter Tryz.func39, Tryz.ntmps39
  go_wp2_with (first
    | (at_builtin
       refine wpList_append8 _ rfl (.tmp 15) (.tmp 28) 47 rfl w.heap.size 5 Tryz.underlying47 info5 (.slice none 0 0) [] rfl (Own.nil_ _ _ _) w.heap.size (.slice (some ⟨w.heap.size, 0, none⟩) 4 4) [UInt8.ofNat (n / 72057594037927936), UInt8.ofNat (n / 281474976710656), UInt8.ofNat (n / 1099511627776), UInt8.ofNat (n / 4294967296)] rfl (Shows.lit (w := w) [UInt8.ofNat (n / 72057594037927936), UInt8.ofNat (n / 281474976710656), UInt8.ofNat (n / 1099511627776), UInt8.ofNat (n / 4294967296)] (by simp [bs, u8c]) (by simp [maxLen])) (by simp) (by simp) ?_
       intro v9 w9 ho9 hg9
       have hb9 : Below w.heap.size w w9 := ((Below.refl _ _).alloc (Nat.le_refl _) _).grown hg9 (by simp) (by simp [Value.ownBlock])
       have hz9 := hb9.size)
    | (at_builtin
       refine wpList_append8 _ rfl (.tmp 30) (.tmp 37) 47 rfl w.heap.size 5 Tryz.underlying47 info5 v9 _ rfl (ho9.alloc_ _) w9.heap.size (.slice (some ⟨w9.heap.size, 0, none⟩) 2 2) [UInt8.ofNat (n / 16777216), UInt8.ofNat (n / 65536)] rfl (Shows.lit (w := w9) [UInt8.ofNat (n / 16777216), UInt8.ofNat (n / 65536)] (by simp [bs, u8c]) (by simp [maxLen])) (by simp) (by simp; omega) ?_
       intro v0 w0 ho0 hg0
       have hb0 : Below w.heap.size w w0 := frame1 hb9 ho9 hg0
       have hz0 := hb0.size)
    | (at_builtin
       refine wpList_append8 _ rfl (.tmp 39) (.tmp 43) 47 rfl w.heap.size 5 Tryz.underlying47 info5 v0 _ rfl (ho0.alloc_ _) w0.heap.size (.slice (some ⟨w0.heap.size, 0, none⟩) 1 1) [UInt8.ofNat (n / 256)] rfl (Shows.lit (w := w0) [UInt8.ofNat (n / 256)] (by simp [bs, u8c]) (by simp [maxLen])) (by simp) (by simp; omega) ?_
       intro v1 w1 ho1 hg1
       have hb1 : Below w.heap.size w w1 := frame1 hb0 ho0 hg1
       have hz1 := hb1.size)
    | (at_builtin
       refine wpList_append8 _ rfl (.tmp 45) (.tmp 48) 47 rfl w.heap.size 5 Tryz.underlying47 info5 v1 _ rfl (ho1.alloc_ _) w1.heap.size (.slice (some ⟨w1.heap.size, 0, none⟩) 1 1) [UInt8.ofNat n] rfl (Shows.lit (w := w1) [UInt8.ofNat n] (by simp [bs, u8c]) (by simp [maxLen])) (by simp) (by simp; omega) ?_
       intro v2 w2 ho2 hg2))
  go_ret
  exact ⟨v2, rfl, by simpa [be, Nat.div_div_eq_div_mul] using ho2, frame1 hb1 ho1 hg2⟩

set_option maxHeartbeats 400000 in
theorem digits0 (n : Nat) (q : Int) (h8 : (q == 8) = false) (h4 : (q == 4) = false) (h2 : (q == 2) = false) (h1 : (q == 1) = false) (w : World) :
    Calls Tryz.prog 39 #[.int .u64 n, .int .i64 q] w fun e w' => ∃ v, e = .returned v ∧ Own 5 w' w.heap.size v [] ∧ Below w.heap.size w w' := by
  go_enter Tryz.func39, Tryz.ntmps39
  go_wp2
  go_ret
  exact ⟨_, rfl, Own.nil_ _ _ _, Below.refl _ _⟩

theorem digits_any (n : Nat) (q : Int) (w : World) :
    Calls Tryz.prog 39 #[.int .u64 n, .int .i64 q] w fun e w' => ∃ v, e = .returned v ∧ Own 5 w' w.heap.size v (be (wd q) n) ∧ Below w.heap.size w w' := by
  by_cases h1 : q = 1
  · subst h1; exact digits1 n w
  by_cases h2 : q = 2
  · subst h2; exact digits2 n w
  by_cases h4 : q = 4
  · subst h4; exact digits4 n w
  by_cases h8 : q = 8
  · subst h8; exact digits8 n w
  have e : wd q = 0 := by simp [wd, h1, h2, h4, h8]
  rw [e]
  exact digits0 n q (by simpa using h8) (by simpa using h4) (by simpa using h2) (by simpa using h1) w

end Go.Proofs.YtdjahdnaihijjaaGreatDoor
/-
  The contract of octet.joined: new memory with the bytes of both, one behind the other.
  Condition: together at most 2^47 bytes.
-/
namespace Go.Proofs.YtdjahdnaihijjaaGreatDoor
open Go.RowKit
set_option linter.unusedVariables false
set_option linter.unusedSimpArgs false

set_option maxHeartbeats 400000 in
theorem joined_s (A1 A2 : Option Addr) (c1 c2 n1 n2 : Nat) (l1 l2 : List UInt8) (d1 d2 : Nat) (w : World) (e1 : l1.length = n1) (e2 : l2.length = n2) (h1 : Shows w d1 (.slice A1 n1 c1) l1) (h2 : Shows w d2 (.slice A2 n2 c2) l2) (hl : n1 + n2 ≤ 140737488355328) :
    Calls Tryz.prog 38 #[.slice A1 n1 c1, .slice A2 n2 c2] w fun e w' => ∃ v, e = .returned v ∧ Own 5 w' w.heap.size v (l1 ++ l2) ∧ Below w.heap.size w w' := by
  have E1 := Lib.hid e1
  have E2 := Lib.hid e2
  clear e1 e2
  obtain ⟨i, hi, hz, hs, hb⟩ := info_parts info5
  have hby : i.bytes * (n1 + n2) ≤ 281474976710656 := by rw [hb]; omega
  have HI := Lib.hid hi
  have HZ := Lib.hid hz
  have HS := Lib.hid hs
  clear hi hz hs hb
  go_enter Tryz.func38, Tryz.ntmps38
  go_wp2_with (first
    | (at_make
       refine wpList_make_own _ rfl (.const (.int .i64 0)) (.tmp 10) 47 rfl w.heap.size 5 i (.int .u8 0) 1 Tryz.underlying47 HI.out HZ.out HS.out .i64 .i64 _ (n1 + n2) rfl rfl (by omega) hby (by simp only [maxLen]; omega) (Nat.le_refl _) ?_
       intro w1 ho1' hg1
       have ho1 : Own 5 w1 w.heap.size (.slice (some ⟨w.heap.size, 0, none⟩) 0 (n1 + n2)) [] := ho1'
       clear ho1'
       have hb1 : Below w.heap.size w w1 := (Below.refl _ _).grown hg1 (Nat.le_refl _) (by simp)
       have hz1 := hb1.size
       have hd1 := h1.grown hg1 (by simp)
       have hd2 := h2.grown hg1 (by simp))
    | (at_builtin
       refine wpList_append8 _ rfl (.tmp 12) (.tmp 13) 47 rfl w.heap.size 5 Tryz.underlying47 info5 _ [] rfl ho1 d1 (.slice A1 n1 c1) l1 rfl hd1 (by simp [E1.out]; omega) hz1 ?_
       intro v2 w2 ho2 hg2
       have hb2 : Below w.heap.size w w2 := hb1.grown hg2 hz1 (fun k hk => (ho1.block k hk).1)
       have hz2 := hb2.size
       have hd3 : Shows w2 d2 (.slice A2 n2 c2) l2 := h2.keep hz2 (fun hp => hb2.block _ (h2.lt hp)))
    | (at_builtin
       refine wpList_append8 _ rfl (.tmp 15) (.tmp 16) 47 rfl w.heap.size 5 Tryz.underlying47 info5 v2 _ rfl ho2 d2 (.slice A2 n2 c2) l2 rfl hd3 (by simp [E1.out, E2.out]; omega) hz2 ?_
       intro v3 w3 ho3 hg3))
  go_ret
  exact ⟨v3, rfl, ho3, hb2.grown hg3 hz2 (fun k hk => (ho2.block k hk).1)⟩

theorem joined_any (v1 v2 : Value) (l1 l2 : List UInt8) (d1 d2 : Nat) (w : World) (h1 : Shows w d1 v1 l1) (h2 : Shows w d2 v2 l2) (hl : l1.length + l2.length ≤ 140737488355328) :
    Calls Tryz.prog 38 #[v1, v2] w fun e w' => ∃ v, e = .returned v ∧ Own 5 w' w.heap.size v (l1 ++ l2) ∧ Below w.heap.size w w' := by
  have k1 := h1
  have k2 := h2
  obtain ⟨A1, c1, rfl, _⟩ := h1
  obtain ⟨A2, c2, rfl, _⟩ := h2
  exact joined_s A1 A2 c1 c2 _ _ l1 l2 d1 d2 w rfl rfl k1 k2 hl

theorem be_wd_length (q : Int) (n : Nat) : (be (wd q) n).length ≤ 8 := by rw [be_length]; exact wd_le q

set_option maxHeartbeats 400000 in
theorem put_any (v : Value) (l : List UInt8) (d n : Nat) (q : Int) (w : World) (h : Shows w d v l) (hl : l.length ≤ 140737488355320) :
    Calls Tryz.prog 15 #[v, .int .u64 n, .int .i64 q] w fun e w' => ∃ v', e = .returned v' ∧ Own 5 w' w.heap.size v' (l ++ be (wd q) n) ∧ Below w.heap.size w w' := by
  have hbl := be_wd_length q n
  go_enter Tryz.func15, Tryz.ntmps15
  go_wp2_with fail
  refine (digits_any n q _).mono ?_
  rintro e w1 ⟨v1, rfl, ho1, hb1⟩
  obtain ⟨g1, hg1, hs1⟩ := ho1.shows
  have hs0 : Shows w1 d v l := h.keep hb1.size fun hp => hb1.block _ (h.lt hp)
  have hz1 := hb1.size
  go_wp2_with fail
  refine (joined_any v v1 l _ d g1 w1 hs0 hs1 (by omega)).mono ?_
  rintro e w2 ⟨v2, rfl, ho2, hb2⟩
  go_wp2_with fail
  go_ret
  exact ⟨v2, rfl, ho2.mono hz1, hb1.trans (hb2.mono hz1)⟩

set_option maxHeartbeats 400000 in
theorem isText1 (q : Int) (w : World) (h : q = 1 ∨ q = 2 ∨ q = 4) : Calls Tryz.prog 41 #[.int .i64 q] w fun e w' => e = .returned (.bool true) ∧ w = w' := by
  rcases h with rfl | rfl | rfl
  all_goals
    go_enter Tryz.func41, Tryz.ntmps41
    go_wp2
    go_ret
    exact ⟨rfl, rfl⟩

set_option maxHeartbeats 400000 in
theorem isText0 (q : Int) (w : World) (h1 : (q == 1) = false) (h2 : (q == 2) = false) (h4 : (q == 4) = false) : Calls Tryz.prog 41 #[.int .i64 q] w fun e w' => e = .returned (.bool false) ∧ w = w' := by
  go_enter Tryz.func41, Tryz.ntmps41
  go_wp2
  go_ret
  exact ⟨rfl, rfl⟩

/-- A text may have this width. -/
def txt (q : Int) : Bool := decide (q = 1 ∨ q = 2 ∨ q = 4)
/-- An integer may have this width. -/
def num (q : Int) : Bool := decide (q = 1 ∨ q = 2 ∨ q = 4 ∨ q = 8)

theorem txt_no {q : Int} (h : txt q = false) : (q == 1) = false ∧ (q == 2) = false ∧ (q == 4) = false := by
  simp [txt] at h; simp [h]
theorem isText_yes (q : Int) (w : World) (h : txt q = true) : Calls Tryz.prog 41 #[.int .i64 q] w fun e w' => e = .returned (.bool true) ∧ w = w' := isText1 q w (by simpa [txt] using h)
theorem isText_no (q : Int) (w : World) (h : txt q = false) : Calls Tryz.prog 41 #[.int .i64 q] w fun e w' => e = .returned (.bool false) ∧ w = w' := isText0 q w (txt_no h).1 (txt_no h).2.1 (txt_no h).2.2

set_option maxHeartbeats 400000 in
theorem isWidth8 (w : World) : Calls Tryz.prog 72 #[.int .i64 8] w fun e w' => e = .returned (.bool true) ∧ w = w' := by
  go_enter Tryz.func72, Tryz.ntmps72
  go_wp2
  go_ret
  exact ⟨rfl, rfl⟩

set_option maxHeartbeats 400000 in
theorem isWidth1 (q : Int) (w : World) (h8 : (q == 8) = false) (h : txt q = true) : Calls Tryz.prog 72 #[.int .i64 q] w fun e w' => e = .returned (.bool true) ∧ w = w' := by
  have H := Lib.hid h
  clear h
  go_enter Tryz.func72, Tryz.ntmps72
  go_wp2_with fail
  refine (isText_yes q _ H.out).mono ?_
  rintro e w' ⟨rfl, rfl⟩
  go_wp2_with fail
  go_ret
  exact ⟨rfl, rfl⟩

set_option maxHeartbeats 400000 in
theorem isWidth0 (q : Int) (w : World) (h8 : (q == 8) = false) (h : txt q = false) : Calls Tryz.prog 72 #[.int .i64 q] w fun e w' => e = .returned (.bool false) ∧ w = w' := by
  have H := Lib.hid h
  clear h
  go_enter Tryz.func72, Tryz.ntmps72
  go_wp2_with fail
  refine (isText_no q _ H.out).mono ?_
  rintro e w' ⟨rfl, rfl⟩
  go_wp2_with fail
  go_ret
  exact ⟨rfl, rfl⟩

theorem isWidth_yes (q : Int) (w : World) (h : num q = true) : Calls Tryz.prog 72 #[.int .i64 q] w fun e w' => e = .returned (.bool true) ∧ w = w' := by
  by_cases h8 : q = 8
  · subst h8; exact isWidth8 w
  · exact isWidth1 q w (by simpa using h8) (by simp [num, h8] at h; simpa [txt] using h)
theorem isWidth_no (q : Int) (w : World) (h : num q = false) : Calls Tryz.prog 72 #[.int .i64 q] w fun e w' => e = .returned (.bool false) ∧ w = w' := by
  simp [num] at h
  exact isWidth0 q w (by simp [h]) (by simp [txt, h])

set_option maxHeartbeats 400000 in
theorem putText_arg (v : Value) (s : ByteArray) (q : Int) (w : World) (h : txt q = false) :
    Calls Tryz.prog 17 #[v, .string s, .int .i64 q] w fun e w' => e = .returned (.tuple #[.slice none 0 0, .int .i64 2]) ∧ w = w' := by
  have H := Lib.hid h
  clear h
  go_enter Tryz.func17, Tryz.ntmps17
  go_wp2_with fail
  refine (isText_no q _ H.out).mono ?_
  rintro e w' ⟨rfl, rfl⟩
  go_wp2_with fail
  go_ret2
  exact ⟨rfl, rfl⟩

set_option maxHeartbeats 400000 in
theorem putText_long1 (v : Value) (s : ByteArray) (w : World) (hs : s.size ≤ 140737488355328) (h : 256 ≤ s.size) :
    Calls Tryz.prog 17 #[v, .string s, .int .i64 1] w fun e w' => e = .returned (.tuple #[.slice none 0 0, .int .i64 3]) ∧ w = w' := by
  have ht : ((s.size : Int) / 256 != 0) = true := by simp; omega
  go_enter Tryz.func17, Tryz.ntmps17
  go_wp2_with fail
  refine (isText_yes 1 _ rfl).mono ?_
  rintro e w' ⟨rfl, rfl⟩
  go_wp2_with fail
  go_ret2
  exact ⟨rfl, rfl⟩

set_option maxHeartbeats 400000 in
theorem putText_ok1 (v : Value) (l : List UInt8) (d : Nat) (s : ByteArray) (w : World) (hv : Shows w d v l) (hl : l.length + s.size ≤ 140737488355320) (h : s.size < 256) :
    Calls Tryz.prog 17 #[v, .string s, .int .i64 1] w fun e w' => ∃ v', e = .returned (.tuple #[v', .int .i64 0]) ∧ Own 5 w' w.heap.size v' (l ++ (be 1 s.size ++ sb s)) ∧ Below w.heap.size w w' := by
  have ht : ((s.size : Int) / 256 != 0) = false := by simp; omega
  have hsl := sb_length s
  have HSL := Lib.hid hsl
  clear hsl
  go_enter Tryz.func17, Tryz.ntmps17
  go_wp2_with fail
  refine (isText_yes 1 _ rfl).mono ?_
  rintro e w' ⟨rfl, rfl⟩
  go_wp2_with fail
  refine (digits_any s.size 1 _).mono ?_
  rintro e w1 ⟨v1, rfl, ho1, hb1⟩
  have hz1 := hb1.size
  go_wp2_with (at_builtin
               refine wpList_append8s _ rfl (.tmp 23) (.tmp 24) 47 9 rfl w.heap.size 5 Tryz.underlying47 Tryz.underlying9 info5 v1 _ rfl ho1 s rfl (by rw [be_length]; have := wd_le 1; omega) hz1 ?_
               intro v2 w2 ho2 hg2
               have hb2 : Below w.heap.size w w2 := hb1.grown hg2 hz1 (fun k hk => (ho1.block k hk).1)
               have hz2 := hb2.size)
  obtain ⟨g2, _, hs2⟩ := ho2.shows
  refine (joined_any v v2 l _ d g2 w2 (hv.keep hz2 fun hp => hb2.block _ (hv.lt hp)) hs2 (by rw [List.length_append, be_length, HSL.out]; have := wd_le 1; omega)).mono ?_
  rintro e w3 ⟨v3, rfl, ho3, hb3⟩
  go_wp2_with fail
  go_ret2
  exact ⟨v3, rfl, ho3.mono hz2, hb2.trans (hb3.mono hz2)⟩

set_option maxHeartbeats 400000 in
theorem putText_long2 (v : Value) (s : ByteArray) (w : World) (hs : s.size ≤ 140737488355328) (h : 65536 ≤ s.size) :
    Calls Tryz.prog 17 #[v, .string s, .int .i64 2] w fun e w' => e = .returned (.tuple #[.slice none 0 0, .int .i64 3]) ∧ w = w' := by
  have ht : ((s.size : Int) / 65536 != 0) = true := by simp; omega
  go_enter Tryz.func17, Tryz.ntmps17
  go_wp2_with fail
  refine (isText_yes 2 _ rfl).mono ?_
  rintro e w' ⟨rfl, rfl⟩
  go_wp2_with fail
  go_ret2
  exact ⟨rfl, rfl⟩

set_option maxHeartbeats 400000 in
theorem putText_ok2 (v : Value) (l : List UInt8) (d : Nat) (s : ByteArray) (w : World) (hv : Shows w d v l) (hl : l.length + s.size ≤ 140737488355320) (h : s.size < 65536) :
    Calls Tryz.prog 17 #[v, .string s, .int .i64 2] w fun e w' => ∃ v', e = .returned (.tuple #[v', .int .i64 0]) ∧ Own 5 w' w.heap.size v' (l ++ (be 2 s.size ++ sb s)) ∧ Below w.heap.size w w' := by
  have ht : ((s.size : Int) / 65536 != 0) = false := by simp; omega
  have hsl := sb_length s
  have HSL := Lib.hid hsl
  clear hsl
  go_enter Tryz.func17, Tryz.ntmps17
  go_wp2_with fail
  refine (isText_yes 2 _ rfl).mono ?_
  rintro e w' ⟨rfl, rfl⟩
  go_wp2_with fail
  refine (digits_any s.size 2 _).mono ?_
  rintro e w1 ⟨v1, rfl, ho1, hb1⟩
  have hz1 := hb1.size
  go_wp2_with (at_builtin
               refine wpList_append8s _ rfl (.tmp 23) (.tmp 24) 47 9 rfl w.heap.size 5 Tryz.underlying47 Tryz.underlying9 info5 v1 _ rfl ho1 s rfl (by rw [be_length]; have := wd_le 2; omega) hz1 ?_
               intro v2 w2 ho2 hg2
               have hb2 : Below w.heap.size w w2 := hb1.grown hg2 hz1 (fun k hk => (ho1.block k hk).1)
               have hz2 := hb2.size)
  obtain ⟨g2, _, hs2⟩ := ho2.shows
  refine (joined_any v v2 l _ d g2 w2 (hv.keep hz2 fun hp => hb2.block _ (hv.lt hp)) hs2 (by rw [List.length_append, be_length, HSL.out]; have := wd_le 2; omega)).mono ?_
  rintro e w3 ⟨v3, rfl, ho3, hb3⟩
  go_wp2_with fail
  go_ret2
  exact ⟨v3, rfl, ho3.mono hz2, hb2.trans (hb3.mono hz2)⟩

set_option maxHeartbeats 400000 in
theorem putText_long4 (v : Value) (s : ByteArray) (w : World) (hs : s.size ≤ 140737488355328) (h : 4294967296 ≤ s.size) :
    Calls Tryz.prog 17 #[v, .string s, .int .i64 4] w fun e w' => e = .returned (.tuple #[.slice none 0 0, .int .i64 3]) ∧ w = w' := by
  have ht : ((s.size : Int) / 4294967296 != 0) = true := by simp; omega
  go_enter Tryz.func17, Tryz.ntmps17
  go_wp2_with fail
  refine (isText_yes 4 _ rfl).mono ?_
  rintro e w' ⟨rfl, rfl⟩
  go_wp2_with fail
  go_ret2
  exact ⟨rfl, rfl⟩

set_option maxHeartbeats 400000 in
theorem putText_ok4 (v : Value) (l : List UInt8) (d : Nat) (s : ByteArray) (w : World) (hv : Shows w d v l) (hl : l.length + s.size ≤ 140737488355320) (h : s.size < 4294967296) :
    Calls Tryz.prog 17 #[v, .string s, .int .i64 4] w fun e w' => ∃ v', e = .returned (.tuple #[v', .int .i64 0]) ∧ Own 5 w' w.heap.size v' (l ++ (be 4 s.size ++ sb s)) ∧ Below w.heap.size w w' := by
  have ht : ((s.size : Int) / 4294967296 != 0) = false := by simp; omega
  have hsl := sb_length s
  have HSL := Lib.hid hsl
  clear hsl
  go_enter Tryz.func17, Tryz.ntmps17
  go_wp2_with fail
  refine (isText_yes 4 _ rfl).mono ?_
  rintro e w' ⟨rfl, rfl⟩
  go_wp2_with fail
  refine (digits_any s.size 4 _).mono ?_
  rintro e w1 ⟨v1, rfl, ho1, hb1⟩
  have hz1 := hb1.size
  go_wp2_with (at_builtin
               refine wpList_append8s _ rfl (.tmp 23) (.tmp 24) 47 9 rfl w.heap.size 5 Tryz.underlying47 Tryz.underlying9 info5 v1 _ rfl ho1 s rfl (by rw [be_length]; have := wd_le 4; omega) hz1 ?_
               intro v2 w2 ho2 hg2
               have hb2 : Below w.heap.size w w2 := hb1.grown hg2 hz1 (fun k hk => (ho1.block k hk).1)
               have hz2 := hb2.size)
  obtain ⟨g2, _, hs2⟩ := ho2.shows
  refine (joined_any v v2 l _ d g2 w2 (hv.keep hz2 fun hp => hb2.block _ (hv.lt hp)) hs2 (by rw [List.length_append, be_length, HSL.out]; have := wd_le 4; omega)).mono ?_
  rintro e w3 ⟨v3, rfl, ho3, hb3⟩
  go_wp2_with fail
  go_ret2
  exact ⟨v3, rfl, ho3.mono hz2, hb2.trans (hb3.mono hz2)⟩

end Go.Proofs.YtdjahdnaihijjaaGreatDoor
/-
  The contracts of the reader's methods: what they return and what is left of the reader.
-/
namespace Go.Proofs.YtdjahdnaihijjaaGreatDoor
open Go.RowKit
set_option linter.unusedVariables false
set_option linter.unusedSimpArgs false

/-- Block g is a reader: l is left (in block d), and it is good or not. -/
def Rdr (w : World) (g d : Nat) (l : List UInt8) (good : Bool) : Prop :=
  ∃ A c, w.heap[g]? = some (.cells #[.slice A l.length c, .bool good] 139 (0, 0)) ∧ Shows w d (.slice A l.length c) l

section
variable {w w' : World} {g d : Nat} {l : List UInt8} {good : Bool}
theorem Rdr.lt (h : Rdr w g d l good) : g < w.heap.size := by
  obtain ⟨A, c, h1, _⟩ := h
  exact (Array.getElem?_eq_some_iff.1 h1).1
theorem Rdr.ne (h : Rdr w g d l good) (hp : 0 < l.length) : d ≠ g := by
  rintro rfl
  obtain ⟨A, c, h1, A', c', e, h2, h3, h4⟩ := h
  obtain ⟨o, rfl, hd, hc⟩ := h4 hp
  have := hc 0 hp
  rw [cell_of_row w d _ _ 139 (0, 0) h1] at this
  have hl := (Array.getElem?_eq_some_iff.1 this).1
  simp at hl
  rcases (show o = 0 ∨ o = 1 by omega) with rfl | rfl <;> simp [u8c] at this
theorem Rdr.keep (h : Rdr w g d l good) (hs : w.heap.size ≤ w'.heap.size) (hg : w'.heap[g]? = w.heap[g]?) (hd : 0 < l.length → w'.heap[d]? = w.heap[d]?) : Rdr w' g d l good := by
  obtain ⟨A, c, h1, h2⟩ := h
  exact ⟨A, c, hg.trans h1, h2.keep hs hd⟩
theorem Rdr.dlt (h : Rdr w g d l good) (hp : 0 < l.length) : d < w.heap.size := by
  obtain ⟨A, c, h1, h2⟩ := h
  exact h2.lt hp
end

theorem spoiled {w : World} {g d : Nat} (x y : Value) (h : w.heap[g]? = some (.cells #[x, y] 139 (0, 0))) :
    Rdr ((w.setCell ⟨g, 0, none⟩ (.slice none 0 0)).setCell ⟨g, 1, none⟩ (.bool false)) g d [] false := by
  refine ⟨none, 0, ?_, Shows.nil_ _ _⟩
  have h1 := heap_setCell_same w g 0 _ 139 (.slice none 0 0) h
  have h2 := heap_setCell_same _ g 1 _ 139 (.bool false) h1
  simpa using h2

theorem moved {w w1 : World} {g d c n : Nat} {A : Option Addr} {l : List UInt8} {good : Bool} (h : Shows w d (.slice A l.length c) l) (hR : Rdr w g d l good) (hb : Below w.heap.size w w1)
    (h1 : w1.heap[g]? = some (.cells #[.slice A l.length c, .bool good] 139 (0, 0))) (hn : n ≤ l.length) (A'' : Option Addr) (hA : ¬ c = n → A'' = A.map (fun x => x.add n)) (q : Nat) (hq : q = c - n) :
    Rdr (w1.setCell ⟨g, 0, none⟩ (.slice A'' (l.length - n) q)) g d (l.drop n) good := by
  subst hq
  have hd : Shows w1 d (.slice A l.length c) l := h.keep hb.size fun hp => hb.block _ (h.lt hp)
  refine ⟨A'', c - n, ?_, ?_⟩
  · have h2 := heap_setCell_same w1 g 0 _ 139 (.slice A'' (l.length - n) (c - n)) h1
    rw [List.length_drop]
    simpa using h2
  · have h3 := hd.tail hn A'' hA
    rw [List.length_drop]
    exact h3.keep (by simp [World.setCell]) fun hp => heap_setCell_other _ _ _ _ (fun e => by
      have := hR.ne (by simp at hp; omega)
      simp at e
      omega)

theorem cutOwn {w w1 : World} {g d : Nat} {l m : List UInt8} {good : Bool} {v : Value} (ho : Own 5 w1 w.heap.size v m) (hR : Rdr w g d l good) (u : Value) : Own 5 (w1.setCell ⟨g, 0, none⟩ u) w.heap.size v m :=
  ho.keep fun k hk => heap_setCell_other _ _ _ _ (fun e => by
    have := (ho.block k hk).1
    have := hR.lt
    simp at e
    omega)
theorem cutFrame {w w1 : World} {g : Nat} (hb : Below w.heap.size w w1) (u : Value) : w.grownBy (w1.setCell ⟨g, 0, none⟩ u) (some g) :=
  ⟨hb.os, hb.tape, hb.output, by simpa [World.setCell] using hb.size, fun k hk hne => (Below.heap_setCell _ _ _ _ (fun e => hne (by rw [e]))).trans (hb.block k hk)⟩

set_option maxHeartbeats 400000 in
theorem bad_nil (w : World) : Calls Tryz.prog 73 #[.pointer none] w fun e w' => e = .returned (.bool true) ∧ w = w' := by
  go_enter Tryz.func73, Tryz.ntmps73
  go_wp2
  go_ret
  exact ⟨rfl, rfl⟩

set_option maxHeartbeats 400000 in
theorem bad_any (g d : Nat) (l : List UInt8) (good : Bool) (w : World) (h : Rdr w g d l good) : Calls Tryz.prog 73 #[.pointer (some ⟨g, 0, none⟩)] w fun e w' => e = .returned (.bool !good) ∧ w = w' := by
  obtain ⟨A, c, h1, h2⟩ := h
  have hc1 : w.cell? ⟨g, 1, none⟩ = some (.bool good) := by rw [cell_of_row w g _ _ 139 (0, 0) h1]; rfl
  clear h1 h2
  go_enter Tryz.func73, Tryz.ntmps73
  go_wp2
  go_ret
  exact ⟨rfl, rfl⟩

theorem bad_yes (g d : Nat) (l : List UInt8) (w : World) (h : Rdr w g d l false) : Calls Tryz.prog 73 #[.pointer (some ⟨g, 0, none⟩)] w fun e w' => e = .returned (.bool true) ∧ w = w' := bad_any g d l false w h
theorem bad_no (g d : Nat) (l : List UInt8) (w : World) (h : Rdr w g d l true) : Calls Tryz.prog 73 #[.pointer (some ⟨g, 0, none⟩)] w fun e w' => e = .returned (.bool false) ∧ w = w' := bad_any g d l true w h

set_option maxHeartbeats 400000 in
theorem size_any (g d : Nat) (l : List UInt8) (good : Bool) (w : World) (h : Rdr w g d l good) : Calls Tryz.prog 75 #[.pointer (some ⟨g, 0, none⟩)] w fun e w' => e = .returned (.int .i64 l.length) ∧ w = w' := by
  obtain ⟨A, c, h1, h2⟩ := h
  have hc1 : w.cell? ⟨g, 0, none⟩ = some (.slice A l.length c) := by rw [cell_of_row w g _ _ 139 (0, 0) h1]; rfl
  clear h1 h2
  go_enter Tryz.func75, Tryz.ntmps75
  go_wp2
  go_ret
  exact ⟨rfl, rfl⟩

set_option maxHeartbeats 400000 in
theorem left_nil (w : World) : Calls Tryz.prog 60 #[.pointer none] w fun e w' => e = .returned (.int .i64 0) ∧ w = w' := by
  go_enter Tryz.func60, Tryz.ntmps60
  go_wp2_with fail
  refine (bad_nil _).mono ?_
  rintro e w' ⟨rfl, rfl⟩
  go_wp2_with fail
  go_ret
  exact ⟨rfl, rfl⟩

set_option maxHeartbeats 400000 in
theorem left_any (g d : Nat) (l : List UInt8) (good : Bool) (w : World) (h : Rdr w g d l good) : Calls Tryz.prog 60 #[.pointer (some ⟨g, 0, none⟩)] w fun e w' => e = .returned (.int .i64 (if good = true then l.length else 0)) ∧ w = w' := by
  cases good
  · go_enter Tryz.func60, Tryz.ntmps60
    go_wp2_with fail
    refine (bad_any g d l false _ h).mono ?_
    rintro e w' ⟨rfl, rfl⟩
    go_wp2_with fail
    go_ret
    exact ⟨rfl, rfl⟩
  · go_enter Tryz.func60, Tryz.ntmps60
    go_wp2_with fail
    refine (bad_any g d l true _ h).mono ?_
    rintro e w' ⟨rfl, rfl⟩
    go_wp2_with fail
    refine (size_any g d l true _ h).mono ?_
    rintro e w' ⟨rfl, rfl⟩
    go_wp2_with fail
    go_ret
    exact ⟨rfl, rfl⟩

set_option maxHeartbeats 400000 in
theorem cut_neg (g d : Nat) (l : List UInt8) (good : Bool) (n : Int) (w : World) (h : Rdr w g d l good) (hn : n < 0) :
    Calls Tryz.prog 74 #[.pointer (some ⟨g, 0, none⟩), .int .i64 n] w fun e w' => e = .returned (.slice none 0 0) ∧ Rdr w' g d [] false ∧ w.grownBy w' (some g) := by
  obtain ⟨A, c, h1, h2⟩ := h
  have hc0 : w.cell? ⟨g, 0, none⟩ = some (.slice A l.length c) := by rw [cell_of_row w g _ _ 139 (0, 0) h1]; rfl
  have hc1 : w.cell? ⟨g, 1, none⟩ = some (.bool good) := by rw [cell_of_row w g _ _ 139 (0, 0) h1]; rfl
  have hf : ∀ i, w.frozen? ⟨g, i, none⟩ = false := fun i => frozen_of_row w g i _ 139 h1
  have H1 := Lib.hid h1
  clear h1 h2
  go_enter Tryz.func74, Tryz.ntmps74
  go_wp2
  go_ret
  refine ⟨rfl, spoiled _ _ H1.out, ?_⟩
  exact ⟨rfl, rfl, rfl, by simp [World.setCell], fun k _ hk => (Below.heap_setCell _ _ _ _ (fun e => hk (by rw [e]))).trans (Below.heap_setCell _ _ _ _ (fun e => hk (by rw [e])))⟩

set_option maxHeartbeats 400000 in
theorem cut_far (g d : Nat) (l : List UInt8) (good : Bool) (n : Nat) (w : World) (h : Rdr w g d l good) (hn : l.length < n) :
    Calls Tryz.prog 74 #[.pointer (some ⟨g, 0, none⟩), .int .i64 n] w fun e w' => e = .returned (.slice none 0 0) ∧ Rdr w' g d [] false ∧ w.grownBy w' (some g) := by
  obtain ⟨A, c, h1, h2⟩ := h
  have hc0 : w.cell? ⟨g, 0, none⟩ = some (.slice A l.length c) := by rw [cell_of_row w g _ _ 139 (0, 0) h1]; rfl
  have hc1 : w.cell? ⟨g, 1, none⟩ = some (.bool good) := by rw [cell_of_row w g _ _ 139 (0, 0) h1]; rfl
  have hf : ∀ i, w.frozen? ⟨g, i, none⟩ = false := fun i => frozen_of_row w g i _ 139 h1
  have t1 : decide ((n : Int) < 0) = false := by simp
  have t2 : decide (l.length < n) = true := by simpa using hn
  have H1 := Lib.hid h1
  clear h1 h2
  go_enter Tryz.func74, Tryz.ntmps74
  go_wp2
  go_ret
  refine ⟨rfl, spoiled _ _ H1.out, ?_⟩
  exact ⟨rfl, rfl, rfl, by simp [World.setCell], fun k _ hk => (Below.heap_setCell _ _ _ _ (fun e => hk (by rw [e]))).trans (Below.heap_setCell _ _ _ _ (fun e => hk (by rw [e])))⟩

set_option maxHeartbeats 400000 in
theorem cut_ok (g d : Nat) (l : List UInt8) (good : Bool) (n : Nat) (w : World) (h : Rdr w g d l good) (hn : n ≤ l.length) (hb : l.length ≤ 140737488355328) :
    Calls Tryz.prog 74 #[.pointer (some ⟨g, 0, none⟩), .int .i64 n] w fun e w' => ∃ v, e = .returned v ∧ Own 5 w' w.heap.size v (l.take n) ∧ Rdr w' g d (l.drop n) good ∧ w.grownBy w' (some g) := by
  have hR := h
  obtain ⟨A, c, h1, h2⟩ := h
  have hc0 : w.cell? ⟨g, 0, none⟩ = some (.slice A l.length c) := by rw [cell_of_row w g _ _ 139 (0, 0) h1]; rfl
  have hc1 : w.cell? ⟨g, 1, none⟩ = some (.bool good) := by rw [cell_of_row w g _ _ 139 (0, 0) h1]; rfl
  have hf : ∀ i, w.frozen? ⟨g, i, none⟩ = false := fun i => frozen_of_row w g i _ 139 h1
  have hnc : n ≤ c := by obtain ⟨_, _, e, h3, _⟩ := h2; cases e; omega
  have t1 : decide ((n : Int) < 0) = false := by simp
  have t2 : decide (l.length < n) = false := by simpa using hn
  have H1 := Lib.hid h1
  clear h1 
  go_enter Tryz.func74, Tryz.ntmps74
  go_wp2_with fail
  refine (joined_any _ _ (l.take n) [] d 0 _ (h2.head hn) (Shows.nil_ _ _) (by simp; omega)).mono ?_
  rintro e w1 ⟨v1, rfl, ho1, hb1⟩
  rw [List.append_nil] at ho1
  have hg1 : w1.heap[g]? = some (.cells #[.slice A l.length c, .bool good] 139 (0, 0)) := (hb1.block g hR.lt).trans H1.out
  have hd0 : w1.cell? ⟨g, 0, none⟩ = some (.slice A l.length c) := by rw [cell_of_row w1 g _ _ 139 (0, 0) hg1]; rfl
  have hd1 : w1.cell? ⟨g, 1, none⟩ = some (.bool good) := by rw [cell_of_row w1 g _ _ 139 (0, 0) hg1]; rfl
  have he : ∀ i, w1.frozen? ⟨g, i, none⟩ = false := fun i => frozen_of_row w1 g i _ 139 hg1
  have G1 := Lib.hid hg1
  clear hg1
  go_wp2_with fail
  · have E := Lib.hid h
    clear h
    go_ret
    refine ⟨v1, rfl, ?_, ?_, ?_⟩
    · exact cutOwn ho1 hR _
    · exact moved h2 hR hb1 G1.out hn A (fun hcn => absurd E.out hcn) 0 (by have := E.out; omega)
    · exact cutFrame hb1 _
  · go_ret
    refine ⟨v1, rfl, ?_, ?_, ?_⟩
    · exact cutOwn ho1 hR _
    · exact moved h2 hR hb1 G1.out hn _ (fun _ => rfl) _ rfl
    · exact cutFrame hb1 _
end Go.Proofs.YtdjahdnaihijjaaGreatDoor
/-
  The contracts of the reader's Take, Num, Text and Open.
-/
namespace Go.Proofs.YtdjahdnaihijjaaGreatDoor
open Go.RowKit
set_option linter.unusedVariables false
set_option linter.unusedSimpArgs false

/-- Block g is a reader, of which is left what s tells; none: it is bad. -/
def RS (w : World) (g d : Nat) : Option (List UInt8) → Prop
  | some l => Rdr w g d l true
  | none => ∃ l, Rdr w g d l false

/-- What Take does. -/
def takeS (n : Int) : Option (List UInt8) → List UInt8 × Option (List UInt8)
  | none => ([], none)
  | some l => if 0 ≤ n ∧ n ≤ l.length then (l.take n.toNat, some (l.drop n.toNat)) else ([], none)

def lenS : Option (List UInt8) → Nat
  | some l => l.length
  | none => 0

section
variable {w w' : World} {g d : Nat} {s : Option (List UInt8)}
theorem RS.lt (h : RS w g d s) : g < w.heap.size := by
  cases s with
  | none => obtain ⟨l, hl⟩ := h; exact hl.lt
  | some l => exact Rdr.lt h
theorem RS.keep (h : RS w g d s) (hs : w.heap.size ≤ w'.heap.size) (hg : w'.heap[g]? = w.heap[g]?) (hd : d < w.heap.size → w'.heap[d]? = w.heap[d]?) : RS w' g d s := by
  cases s with
  | none => obtain ⟨l, hl⟩ := h; exact ⟨l, hl.keep hs hg fun hp => hd (hl.dlt hp)⟩
  | some l => exact Rdr.keep h hs hg fun hp => hd (Rdr.dlt h hp)
end

theorem grown_refl (w : World) (r : Option Nat) : w.grownBy w r := ⟨rfl, rfl, rfl, Nat.le_refl _, fun _ _ _ => rfl⟩

set_option maxHeartbeats 400000 in
theorem take_nil (n : Int) (w : World) : Calls Tryz.prog 59 #[.pointer none, .int .i64 n] w fun e w' => e = .returned (.slice none 0 0) ∧ w = w' := by
  go_enter Tryz.func59, Tryz.ntmps59
  go_wp2_with fail
  refine (bad_nil _).mono ?_
  rintro e w' ⟨rfl, rfl⟩
  go_wp2_with fail
  go_ret
  exact ⟨rfl, rfl⟩

set_option maxHeartbeats 400000 in
theorem take_bad (g d : Nat) (l : List UInt8) (n : Int) (w : World) (h : Rdr w g d l false) : Calls Tryz.prog 59 #[.pointer (some ⟨g, 0, none⟩), .int .i64 n] w fun e w' => e = .returned (.slice none 0 0) ∧ w = w' := by
  go_enter Tryz.func59, Tryz.ntmps59
  go_wp2_with fail
  refine (bad_yes g d l _ h).mono ?_
  rintro e w' ⟨rfl, rfl⟩
  go_wp2_with fail
  go_ret
  exact ⟨rfl, rfl⟩

set_option maxHeartbeats 400000 in
theorem take_good (g d : Nat) (l : List UInt8) (n : Int) (w : World) (h : Rdr w g d l true) (R : Ending → World → Prop)
    (hR : Calls Tryz.prog 74 #[.pointer (some ⟨g, 0, none⟩), .int .i64 n] w fun e w' => ∃ v, e = .returned v ∧ R e w') : Calls Tryz.prog 59 #[.pointer (some ⟨g, 0, none⟩), .int .i64 n] w R := by
  have H := Lib.hid hR
  clear hR
  go_enter Tryz.func59, Tryz.ntmps59
  go_wp2_with fail
  refine (bad_no g d l _ h).mono ?_
  rintro e w' ⟨rfl, rfl⟩
  go_wp2_with fail
  refine H.out.mono ?_
  rintro e w' ⟨v, rfl, hv⟩
  go_wp2_with fail
  exact hv

theorem take_any (g d : Nat) (s : Option (List UInt8)) (n : Int) (w : World) (h : RS w g d s) (hb : lenS s ≤ 140737488355328) :
    Calls Tryz.prog 59 #[.pointer (some ⟨g, 0, none⟩), .int .i64 n] w fun e w' => ∃ v, e = .returned v ∧ Own 5 w' w.heap.size v (takeS n s).1 ∧ RS w' g d (takeS n s).2 ∧ w.grownBy w' (some g) := by
  cases s with
  | none =>
    obtain ⟨l, hl⟩ := h
    refine (take_bad g d l n w hl).mono ?_
    rintro e w' ⟨rfl, rfl⟩
    exact ⟨_, rfl, Own.nil_ _ _ _, ⟨l, hl⟩, grown_refl _ _⟩
  | some l =>
    refine take_good g d l n w h _ ?_
    by_cases h0 : n < 0
    · refine (cut_neg g d l true n w h h0).mono ?_
      rintro e w' ⟨rfl, h1, h2⟩
      have e1 : takeS n (some l) = ([], none) := by simp only [takeS]; rw [if_neg (by omega)]
      rw [e1]
      exact ⟨_, rfl, _, rfl, Own.nil_ _ _ _, ⟨[], h1⟩, h2⟩
    · obtain ⟨k, rfl⟩ := Int.eq_ofNat_of_zero_le (show 0 ≤ n by omega)
      by_cases h1 : l.length < k
      · refine (cut_far g d l true k w h h1).mono ?_
        rintro e w' ⟨rfl, h1, h2⟩
        have e1 : takeS (k : Int) (some l) = ([], none) := by simp only [takeS]; rw [if_neg (by omega)]
        rw [e1]
        exact ⟨_, rfl, _, rfl, Own.nil_ _ _ _, ⟨[], h1⟩, h2⟩
      · refine (cut_ok g d l true k w h (by omega) hb).mono ?_
        rintro e w' ⟨v, rfl, h1, h2, h3⟩
        have e1 : takeS (k : Int) (some l) = (l.take k, some (l.drop k)) := by simp only [takeS]; rw [if_pos (by omega)]; simp
        rw [e1]
        exact ⟨_, rfl, _, rfl, h1, h2, h3⟩

/-- The number that bytes are, the highest first. -/
def numOf (l : List UInt8) : Nat := l.foldl (fun n b => n * 256 + b.toNat) 0

/-- What Num does. -/
def numS (q : Int) (s : Option (List UInt8)) : Nat × Option (List UInt8) := (numOf (takeS (if num q = true then q else -1) s).1, (takeS (if num q = true then q else -1) s).2)

theorem foldl_num : ∀ (l : List UInt8) (a : Nat), l.foldl (fun n b => n * 256 + b.toNat) a < (a + 1) * 256 ^ l.length
  | [], a => by simp
  | b :: l, a => by
    rw [List.foldl_cons, List.length_cons, Nat.pow_succ]
    have h := foldl_num l (a * 256 + b.toNat)
    have hb := b.toNat_lt
    have h2 : (a * 256 + b.toNat + 1) ≤ (a + 1) * 256 := by omega
    calc _ < (a * 256 + b.toNat + 1) * 256 ^ l.length := h
      _ ≤ ((a + 1) * 256) * 256 ^ l.length := Nat.mul_le_mul_right _ h2
      _ = (a + 1) * (256 ^ l.length * 256) := by rw [Nat.mul_assoc, Nat.mul_comm 256]

theorem numOf_lt (l : List UInt8) : numOf l < 256 ^ l.length := by simpa [numOf] using foldl_num l 0
theorem numOf_snoc (l : List UInt8) (b : UInt8) : numOf (l ++ [b]) = numOf l * 256 + b.toNat := by simp [numOf]
theorem numOf_take7 (l : List UInt8) (k : Nat) (h : k < 8) : numOf (l.take k) < 72057594037927936 := by
  have h1 := numOf_lt (l.take k)
  have h2 : (l.take k).length ≤ 7 := by simp; omega
  have h3 : 256 ^ (l.take k).length ≤ 256 ^ 7 := Nat.pow_le_pow_right (by omega) h2
  exact Nat.lt_of_lt_of_le h1 (Nat.le_trans h3 (by decide))
theorem orJoin (x b : Nat) (hx : (x : Int) < 72057594037927936) (hb : (b : Int) < 256) : bits .or .u64 ((x : Int) * 256) (b : Int) = ((x * 256 + b : Nat) : Int) := by
  have e : ((x : Int) * 256) = ((x * 256 : Nat) : Int) := by simp
  rw [e, u64_or_nat (x * 256) b (by omega) (by omega), Nat.or_comm, nat_join8' (x * 256) b (by omega) (by omega)]

theorem takeS_len (n : Int) (s : Option (List UInt8)) : ((takeS n s).1.length : Int) ≤ max n 0 := by
  cases s with
  | none => simp [takeS]; omega
  | some l =>
    simp only [takeS]
    split
    · simp; omega
    · simp; omega
theorem num_le8 {q : Int} (h : num q = true) : q ≤ 8 := by simp [num] at h; omega

set_option maxHeartbeats 400000 in
theorem num_w (g d : Nat) (s : Option (List UInt8)) (q : Int) (w : World) (h : RS w g d s) (hb : lenS s ≤ 140737488355328) (hq : num q = true) :
    Calls Tryz.prog 58 #[.pointer (some ⟨g, 0, none⟩), .int .i64 q] w fun e w' => e = .returned (.int .u64 (numOf (takeS q s).1)) ∧ RS w' g d (takeS q s).2 ∧ w.grownBy w' (some g) := by
  have hm8 : (takeS q s).1.length ≤ 8 := by have := takeS_len q s; have := num_le8 hq; omega
  have HQ := Lib.hid hq
  have HB := Lib.hid hb
  clear hq hb
  go_enter Tryz.func58, Tryz.ntmps58
  go_wp2_with fail
  refine (isWidth_yes q _ HQ.out).mono ?_
  rintro e w' ⟨rfl, rfl⟩
  go_wp2_with fail
  refine (take_any g d s q _ h HB.out).mono ?_
  rintro e w1 ⟨v1, rfl, ho1, hr1, hg1⟩
  obtain ⟨g1, hge, hs1⟩ := ho1.shows
  obtain ⟨A, c, rfl, hlc, hc, hcell⟩ := hs1
  generalize hm : (takeS q s).1 = m at *
  have HM := Lib.hid hm
  clear hm
  go_wp2_with fail
  go_loop [5, 15] (fun n i => ∃ k : Nat, k ≤ m.length ∧ i = .int .i64 k ∧ n = .int .u64 (numOf (m.take k))) (fun _ i => m.length - (intOf i).toNat)
  case atStart => exact ⟨0, Nat.zero_le _, rfl, rfl⟩
  case round =>
    obtain ⟨k, hk, rfl, rfl⟩ := hrel
    by_cases hlt : k < m.length
    · obtain ⟨o, rfl, _, hcl⟩ := hcell (by omega)
      have hcc : w1.cell? ⟨g1, o + k, none⟩ = some (.int .u8 (m[k]'hlt).toNat) := hcl k hlt
      have hlo : ((m[k]'hlt).toNat : Int) < 256 := by have := (m[k]'hlt).toNat_lt; omega
      have hx : (numOf (m.take k) : Int) < 72057594037927936 := by have := numOf_take7 m k (by omega); omega
      have HJ : Hid (bits .or .u64 ((numOf (m.take k) : Int) * 256) ((m[k]'hlt).toNat : Int) = ((numOf (m.take (k + 1)) : Nat) : Int)) := by
        show _ = _
        rw [orJoin _ _ hx hlo, List.take_succ_eq_append_getElem hlt, numOf_snoc]
      generalize (m[k]'hlt).toNat = b at *
      generalize numOf (m.take k) = x at *
      clear hcell hcl
      go_wp2
      go_round
      case rel => exact ⟨k + 1, by omega, by go_num, by rw [HJ.out]⟩
      case measure => simp [intOf]; omega
    · go_wp2
      go_ret
      refine ⟨?_, hr1, hg1⟩
      have : k = m.length := by omega
      subst this
      rw [HM.out, List.take_length]
      rfl

set_option maxHeartbeats 400000 in
theorem num_no (g d : Nat) (s : Option (List UInt8)) (q : Int) (w : World) (h : RS w g d s) (hb : lenS s ≤ 140737488355328) (hq : num q = false) :
    Calls Tryz.prog 58 #[.pointer (some ⟨g, 0, none⟩), .int .i64 q] w fun e w' => e = .returned (.int .u64 (0 : Nat)) ∧ RS w' g d (takeS (-1) s).2 ∧ w.grownBy w' (some g) := by
  have e0 : (takeS (-1) s).1 = [] := by cases s <;> simp [takeS]
  have E0 := Lib.hid e0
  have HQ := Lib.hid hq
  have HB := Lib.hid hb
  clear hq hb e0
  go_enter Tryz.func58, Tryz.ntmps58
  go_wp2_with fail
  refine (isWidth_no q _ HQ.out).mono ?_
  rintro e w' ⟨rfl, rfl⟩
  go_wp2_with fail
  refine (take_any g d s (-1) _ h HB.out).mono ?_
  rintro e w1 ⟨v1, rfl, ho1, hr1, hg1⟩
  rw [E0.out] at ho1
  obtain ⟨A, c, rfl, _⟩ := ho1.form
  go_wp2_with fail
  go_loop [5, 15] (fun n i => i = .int .i64 0 ∧ n = .int .u64 0) (fun _ _ => 0)
  case atStart => exact ⟨rfl, rfl⟩
  case round =>
    obtain ⟨rfl, rfl⟩ := hrel
    go_wp2
    go_ret
    exact ⟨rfl, hr1, hg1⟩

set_option maxHeartbeats 400000 in
theorem num_nil (q : Int) (w : World) :
    Calls Tryz.prog 58 #[.pointer none, .int .i64 q] w fun e w' => e = .returned (.int .u64 (0 : Nat)) ∧ w = w' := by
  by_cases hq : num q = true
  · have HQ := Lib.hid hq
    clear hq
    go_enter Tryz.func58, Tryz.ntmps58
    go_wp2_with fail
    refine (isWidth_yes q _ HQ.out).mono ?_
    rintro e w' ⟨rfl, rfl⟩
    go_wp2_with fail
    refine (take_nil q _).mono ?_
    rintro e w' ⟨rfl, rfl⟩
    go_wp2_with fail
    go_loop [5, 15] (fun n i => i = .int .i64 0 ∧ n = .int .u64 0) (fun _ _ => 0)
    case atStart => exact ⟨rfl, rfl⟩
    case round =>
      obtain ⟨rfl, rfl⟩ := hrel
      go_wp2
      go_ret
      exact ⟨rfl, rfl⟩
  · have hq : num q = false := by simpa using hq
    have HQ := Lib.hid hq
    clear hq
    go_enter Tryz.func58, Tryz.ntmps58
    go_wp2_with fail
    refine (isWidth_no q _ HQ.out).mono ?_
    rintro e w' ⟨rfl, rfl⟩
    go_wp2_with fail
    refine (take_nil (-1) _).mono ?_
    rintro e w' ⟨rfl, rfl⟩
    go_wp2_with fail
    go_loop [5, 15] (fun n i => i = .int .i64 0 ∧ n = .int .u64 0) (fun _ _ => 0)
    case atStart => exact ⟨rfl, rfl⟩
    case round =>
      obtain ⟨rfl, rfl⟩ := hrel
      go_wp2
      go_ret
      exact ⟨rfl, rfl⟩

theorem num_any (g d : Nat) (s : Option (List UInt8)) (q : Int) (w : World) (h : RS w g d s) (hb : lenS s ≤ 140737488355328) :
    Calls Tryz.prog 58 #[.pointer (some ⟨g, 0, none⟩), .int .i64 q] w fun e w' => e = .returned (.int .u64 (numS q s).1) ∧ RS w' g d (numS q s).2 ∧ w.grownBy w' (some g) := by
  unfold numS
  by_cases hq : num q = true
  · rw [if_pos hq]; exact num_w g d s q w h hb hq
  · rw [if_neg hq]
    have e0 : (takeS (-1) s).1 = [] := by cases s <;> simp [takeS]
    rw [e0]
    exact num_no g d s q w h hb (by simpa using hq)

end Go.Proofs.YtdjahdnaihijjaaGreatDoor
/-
  The contracts of the reader's Text and of Open.
-/
namespace Go.Proofs.YtdjahdnaihijjaaGreatDoor
open Go.RowKit
set_option linter.unusedVariables false
set_option linter.unusedSimpArgs false

theorem grown_trans' {a b c : World} {r : Option Nat} (h : a.grownBy b r) (k : b.grownBy c r) : a.grownBy c r :=
  ⟨k.os.trans h.os, k.tape.trans h.tape, k.output.trans h.output, Nat.le_trans h.size k.size, fun i hi hne => (k.block i (Nat.lt_of_lt_of_le hi h.size) hne).trans (h.block i hi hne)⟩

/-- What Text does behind the length. -/
def textT (most : Int) (p : Nat × Option (List UInt8)) : List UInt8 × Option (List UInt8) :=
  if most < 0 ∨ most < p.1 then ([], (takeS (-1) p.2).2) else takeS (p.1 : Nat) p.2
/-- What Text does. -/
def textS (q most : Int) (s : Option (List UInt8)) : List UInt8 × Option (List UInt8) := textT most (numS (if txt q = true then q else -1) s)

theorem takeS_lenS (n : Int) (s : Option (List UInt8)) : lenS (takeS n s).2 ≤ lenS s := by
  cases s with
  | none => simp [takeS]
  | some l => simp only [takeS]; split <;> simp [lenS]
theorem numS_lenS (q : Int) (s : Option (List UInt8)) : lenS (numS q s).2 ≤ lenS s := takeS_lenS _ _

set_option maxHeartbeats 400000 in
theorem text_yes_neg (g d : Nat) (s : Option (List UInt8)) (q most : Int) (w : World) (h : RS w g d s) (hb : lenS s ≤ 140737488355328) (m1 : -9223372036854775808 ≤ most) (m2 : most ≤ 9223372036854775807) (hq : txt q = true) (n : Nat) (s1 : Option (List UInt8)) (hn : numS q s = (n, s1))
    (hs : most < 0) :
    Calls Tryz.prog 76 #[.pointer (some ⟨g, 0, none⟩), .int .i64 q, .int .i64 most] w fun e w' => e = .returned (.string (str8 (takeS (-1) s1).1)) ∧ RS w' g d (takeS (-1) s1).2 ∧ w.grownBy w' (some g) := by
  have hb1 : lenS s1 ≤ 140737488355328 := by have := numS_lenS q s; rw [hn] at this; exact Nat.le_trans this hb
  have t1 : decide (most < 0) = true := by simpa using hs
  have HQ := Lib.hid hq
  have HB := Lib.hid hb
  have HN := Lib.hid hn
  have HB1 := Lib.hid hb1
  clear hq hb hn hb1
  go_enter Tryz.func76, Tryz.ntmps76
  go_wp2_with fail
  refine (isText_yes q _ HQ.out).mono ?_
  rintro e w' ⟨rfl, rfl⟩
  go_wp2_with fail
  refine (num_any g d s q _ h HB.out).mono ?_
  rintro e w1 ⟨rfl, hr1, hg1⟩
  rw [HN.out] at hr1
  simp only [HN.out]
  go_wp2_with fail
  refine (take_any g d s1 (-1) _ hr1 HB1.out).mono ?_
  rintro e w2 ⟨v2, rfl, ho2, hr2, hg2⟩
  obtain ⟨g2, _, hs2⟩ := ho2.shows
  have hcv := run_conv8 (P := Tryz.prog) w2 47 5 9 Tryz.underlying47 Tryz.underlying5 Tryz.underlying9 g2 v2 _ hs2
  go_wp2_with fail
  go_ret
  exact ⟨rfl, hr2, grown_trans' hg1 hg2⟩

set_option maxHeartbeats 400000 in
theorem text_yes_far (g d : Nat) (s : Option (List UInt8)) (q most : Int) (w : World) (h : RS w g d s) (hb : lenS s ≤ 140737488355328) (m1 : -9223372036854775808 ≤ most) (m2 : most ≤ 9223372036854775807) (hq : txt q = true) (n : Nat) (s1 : Option (List UInt8)) (hn : numS q s = (n, s1))
    (h0 : 0 ≤ most) (hs : most < n) :
    Calls Tryz.prog 76 #[.pointer (some ⟨g, 0, none⟩), .int .i64 q, .int .i64 most] w fun e w' => e = .returned (.string (str8 (takeS (-1) s1).1)) ∧ RS w' g d (takeS (-1) s1).2 ∧ w.grownBy w' (some g) := by
  have hb1 : lenS s1 ≤ 140737488355328 := by have := numS_lenS q s; rw [hn] at this; exact Nat.le_trans this hb
  have t1 : decide (most < 0) = false := by simp; omega
  have t2 : decide (most < (n : Int)) = true := by simpa using hs
  have HQ := Lib.hid hq
  have HB := Lib.hid hb
  have HN := Lib.hid hn
  have HB1 := Lib.hid hb1
  clear hq hb hn hb1
  go_enter Tryz.func76, Tryz.ntmps76
  go_wp2_with fail
  refine (isText_yes q _ HQ.out).mono ?_
  rintro e w' ⟨rfl, rfl⟩
  go_wp2_with fail
  refine (num_any g d s q _ h HB.out).mono ?_
  rintro e w1 ⟨rfl, hr1, hg1⟩
  rw [HN.out] at hr1
  simp only [HN.out]
  go_wp2_with fail
  refine (take_any g d s1 (-1) _ hr1 HB1.out).mono ?_
  rintro e w2 ⟨v2, rfl, ho2, hr2, hg2⟩
  obtain ⟨g2, _, hs2⟩ := ho2.shows
  have hcv := run_conv8 (P := Tryz.prog) w2 47 5 9 Tryz.underlying47 Tryz.underlying5 Tryz.underlying9 g2 v2 _ hs2
  go_wp2_with fail
  go_ret
  exact ⟨rfl, hr2, grown_trans' hg1 hg2⟩

set_option maxHeartbeats 400000 in
theorem text_yes_ok (g d : Nat) (s : Option (List UInt8)) (q most : Int) (w : World) (h : RS w g d s) (hb : lenS s ≤ 140737488355328) (m1 : -9223372036854775808 ≤ most) (m2 : most ≤ 9223372036854775807) (hq : txt q = true) (n : Nat) (s1 : Option (List UInt8)) (hn : numS q s = (n, s1))
    (h0 : 0 ≤ most) (hs : (n : Int) ≤ most) :
    Calls Tryz.prog 76 #[.pointer (some ⟨g, 0, none⟩), .int .i64 q, .int .i64 most] w fun e w' => e = .returned (.string (str8 (takeS (n : Nat) s1).1)) ∧ RS w' g d (takeS (n : Nat) s1).2 ∧ w.grownBy w' (some g) := by
  have hb1 : lenS s1 ≤ 140737488355328 := by have := numS_lenS q s; rw [hn] at this; exact Nat.le_trans this hb
  have t1 : decide (most < 0) = false := by simp; omega
  have t2 : decide (most < (n : Int)) = false := by simp; omega
  have t3 : (n : Int) ≤ 9223372036854775807 := by omega
  have HQ := Lib.hid hq
  have HB := Lib.hid hb
  have HN := Lib.hid hn
  have HB1 := Lib.hid hb1
  clear hq hb hn hb1
  go_enter Tryz.func76, Tryz.ntmps76
  go_wp2_with fail
  refine (isText_yes q _ HQ.out).mono ?_
  rintro e w' ⟨rfl, rfl⟩
  go_wp2_with fail
  refine (num_any g d s q _ h HB.out).mono ?_
  rintro e w1 ⟨rfl, hr1, hg1⟩
  rw [HN.out] at hr1
  simp only [HN.out]
  go_wp2_with fail
  refine (take_any g d s1 (n : Nat) _ hr1 HB1.out).mono ?_
  rintro e w2 ⟨v2, rfl, ho2, hr2, hg2⟩
  obtain ⟨g2, _, hs2⟩ := ho2.shows
  have hcv := run_conv8 (P := Tryz.prog) w2 47 5 9 Tryz.underlying47 Tryz.underlying5 Tryz.underlying9 g2 v2 _ hs2
  go_wp2_with fail
  go_ret
  exact ⟨rfl, hr2, grown_trans' hg1 hg2⟩

set_option maxHeartbeats 400000 in
theorem text_no_neg (g d : Nat) (s : Option (List UInt8)) (q most : Int) (w : World) (h : RS w g d s) (hb : lenS s ≤ 140737488355328) (m1 : -9223372036854775808 ≤ most) (m2 : most ≤ 9223372036854775807) (hq : txt q = false) (n : Nat) (s1 : Option (List UInt8)) (hn : numS (-1) s = (n, s1))
    (hs : most < 0) :
    Calls Tryz.prog 76 #[.pointer (some ⟨g, 0, none⟩), .int .i64 q, .int .i64 most] w fun e w' => e = .returned (.string (str8 (takeS (-1) s1).1)) ∧ RS w' g d (takeS (-1) s1).2 ∧ w.grownBy w' (some g) := by
  have hb1 : lenS s1 ≤ 140737488355328 := by have := numS_lenS (-1) s; rw [hn] at this; exact Nat.le_trans this hb
  have t1 : decide (most < 0) = true := by simpa using hs
  have HQ := Lib.hid hq
  have HB := Lib.hid hb
  have HN := Lib.hid hn
  have HB1 := Lib.hid hb1
  clear hq hb hn hb1
  go_enter Tryz.func76, Tryz.ntmps76
  go_wp2_with fail
  refine (isText_no q _ HQ.out).mono ?_
  rintro e w' ⟨rfl, rfl⟩
  go_wp2_with fail
  refine (num_any g d s (-1) _ h HB.out).mono ?_
  rintro e w1 ⟨rfl, hr1, hg1⟩
  rw [HN.out] at hr1
  simp only [HN.out]
  go_wp2_with fail
  refine (take_any g d s1 (-1) _ hr1 HB1.out).mono ?_
  rintro e w2 ⟨v2, rfl, ho2, hr2, hg2⟩
  obtain ⟨g2, _, hs2⟩ := ho2.shows
  have hcv := run_conv8 (P := Tryz.prog) w2 47 5 9 Tryz.underlying47 Tryz.underlying5 Tryz.underlying9 g2 v2 _ hs2
  go_wp2_with fail
  go_ret
  exact ⟨rfl, hr2, grown_trans' hg1 hg2⟩

set_option maxHeartbeats 400000 in
theorem text_no_far (g d : Nat) (s : Option (List UInt8)) (q most : Int) (w : World) (h : RS w g d s) (hb : lenS s ≤ 140737488355328) (m1 : -9223372036854775808 ≤ most) (m2 : most ≤ 9223372036854775807) (hq : txt q = false) (n : Nat) (s1 : Option (List UInt8)) (hn : numS (-1) s = (n, s1))
    (h0 : 0 ≤ most) (hs : most < n) :
    Calls Tryz.prog 76 #[.pointer (some ⟨g, 0, none⟩), .int .i64 q, .int .i64 most] w fun e w' => e = .returned (.string (str8 (takeS (-1) s1).1)) ∧ RS w' g d (takeS (-1) s1).2 ∧ w.grownBy w' (some g) := by
  have hb1 : lenS s1 ≤ 140737488355328 := by have := numS_lenS (-1) s; rw [hn] at this; exact Nat.le_trans this hb
  have t1 : decide (most < 0) = false := by simp; omega
  have t2 : decide (most < (n : Int)) = true := by simpa using hs
  have HQ := Lib.hid hq
  have HB := Lib.hid hb
  have HN := Lib.hid hn
  have HB1 := Lib.hid hb1
  clear hq hb hn hb1
  go_enter Tryz.func76, Tryz.ntmps76
  go_wp2_with fail
  refine (isText_no q _ HQ.out).mono ?_
  rintro e w' ⟨rfl, rfl⟩
  go_wp2_with fail
  refine (num_any g d s (-1) _ h HB.out).mono ?_
  rintro e w1 ⟨rfl, hr1, hg1⟩
  rw [HN.out] at hr1
  simp only [HN.out]
  go_wp2_with fail
  refine (take_any g d s1 (-1) _ hr1 HB1.out).mono ?_
  rintro e w2 ⟨v2, rfl, ho2, hr2, hg2⟩
  obtain ⟨g2, _, hs2⟩ := ho2.shows
  have hcv := run_conv8 (P := Tryz.prog) w2 47 5 9 Tryz.underlying47 Tryz.underlying5 Tryz.underlying9 g2 v2 _ hs2
  go_wp2_with fail
  go_ret
  exact ⟨rfl, hr2, grown_trans' hg1 hg2⟩

set_option maxHeartbeats 400000 in
theorem text_no_ok (g d : Nat) (s : Option (List UInt8)) (q most : Int) (w : World) (h : RS w g d s) (hb : lenS s ≤ 140737488355328) (m1 : -9223372036854775808 ≤ most) (m2 : most ≤ 9223372036854775807) (hq : txt q = false) (n : Nat) (s1 : Option (List UInt8)) (hn : numS (-1) s = (n, s1))
    (h0 : 0 ≤ most) (hs : (n : Int) ≤ most) :
    Calls Tryz.prog 76 #[.pointer (some ⟨g, 0, none⟩), .int .i64 q, .int .i64 most] w fun e w' => e = .returned (.string (str8 (takeS (n : Nat) s1).1)) ∧ RS w' g d (takeS (n : Nat) s1).2 ∧ w.grownBy w' (some g) := by
  have hb1 : lenS s1 ≤ 140737488355328 := by have := numS_lenS (-1) s; rw [hn] at this; exact Nat.le_trans this hb
  have t1 : decide (most < 0) = false := by simp; omega
  have t2 : decide (most < (n : Int)) = false := by simp; omega
  have t3 : (n : Int) ≤ 9223372036854775807 := by omega
  have HQ := Lib.hid hq
  have HB := Lib.hid hb
  have HN := Lib.hid hn
  have HB1 := Lib.hid hb1
  clear hq hb hn hb1
  go_enter Tryz.func76, Tryz.ntmps76
  go_wp2_with fail
  refine (isText_no q _ HQ.out).mono ?_
  rintro e w' ⟨rfl, rfl⟩
  go_wp2_with fail
  refine (num_any g d s (-1) _ h HB.out).mono ?_
  rintro e w1 ⟨rfl, hr1, hg1⟩
  rw [HN.out] at hr1
  simp only [HN.out]
  go_wp2_with fail
  refine (take_any g d s1 (n : Nat) _ hr1 HB1.out).mono ?_
  rintro e w2 ⟨v2, rfl, ho2, hr2, hg2⟩
  obtain ⟨g2, _, hs2⟩ := ho2.shows
  have hcv := run_conv8 (P := Tryz.prog) w2 47 5 9 Tryz.underlying47 Tryz.underlying5 Tryz.underlying9 g2 v2 _ hs2
  go_wp2_with fail
  go_ret
  exact ⟨rfl, hr2, grown_trans' hg1 hg2⟩

theorem text_any (g d : Nat) (s : Option (List UInt8)) (q most : Int) (w : World) (h : RS w g d s) (hb : lenS s ≤ 140737488355328) (m1 : -9223372036854775808 ≤ most) (m2 : most ≤ 9223372036854775807) :
    Calls Tryz.prog 76 #[.pointer (some ⟨g, 0, none⟩), .int .i64 q, .int .i64 most] w fun e w' => e = .returned (.string (str8 (textS q most s).1)) ∧ RS w' g d (textS q most s).2 ∧ w.grownBy w' (some g) := by
  have e0 : ∀ s1, (takeS (-1) s1).1 = [] := fun s1 => by cases s1 <;> simp [takeS]
  unfold textS
  by_cases hq : txt q = true
  · rw [if_pos hq]
    generalize hn : numS q s = p
    obtain ⟨n, s1⟩ := p
    unfold textT
    by_cases h0 : most < 0
    · rw [if_pos (.inl h0)]
      have := text_yes_neg g d s q most w h hb m1 m2 hq n s1 hn h0
      rw [e0] at this
      exact this
    · by_cases h1 : most < (n : Int)
      · rw [if_pos (.inr h1)]
        have := text_yes_far g d s q most w h hb m1 m2 hq n s1 hn (by omega) h1
        rw [e0] at this
        exact this
      · rw [if_neg (by simp; omega)]
        exact text_yes_ok g d s q most w h hb m1 m2 hq n s1 hn (by omega) (by omega)
  · rw [if_neg hq]
    have hq : txt q = false := by simpa using hq
    generalize hn : numS (-1) s = p
    obtain ⟨n, s1⟩ := p
    unfold textT
    by_cases h0 : most < 0
    · rw [if_pos (.inl h0)]
      have := text_no_neg g d s q most w h hb m1 m2 hq n s1 hn h0
      rw [e0] at this
      exact this
    · by_cases h1 : most < (n : Int)
      · rw [if_pos (.inr h1)]
        have := text_no_far g d s q most w h hb m1 m2 hq n s1 hn (by omega) h1
        rw [e0] at this
        exact this
      · rw [if_neg (by simp; omega)]
        exact text_no_ok g d s q most w h hb m1 m2 hq n s1 hn (by omega) (by omega)

set_option maxHeartbeats 400000 in
theorem text_nil (q most : Int) (w : World) (m1 : -9223372036854775808 ≤ most) (m2 : most ≤ 9223372036854775807) :
    Calls Tryz.prog 76 #[.pointer none, .int .i64 q, .int .i64 most] w fun e w' => e = .returned (.string (str8 [])) ∧ w = w' := by
  have hcv := fun W => run_conv8 (P := Tryz.prog) W 47 5 9 Tryz.underlying47 Tryz.underlying5 Tryz.underlying9 0 _ _ (Shows.nil_ W 0)
  by_cases h0 : most < 0
  · have t1 : decide (most < 0) = true := by simpa using h0
    by_cases hq : txt q = true
    all_goals
      have HQ := Lib.hid hq
      clear hq
      go_enter Tryz.func76, Tryz.ntmps76
      go_wp2_with fail
      first
        | refine (isText_yes q _ HQ.out).mono ?_
        | refine (isText_no q _ (by simpa using HQ.out)).mono ?_
      rintro e w' ⟨rfl, rfl⟩
      go_wp2_with fail
      refine (num_nil _ _).mono ?_
      rintro e w' ⟨rfl, rfl⟩
      go_wp2_with fail
      refine (take_nil _ _).mono ?_
      rintro e w' ⟨rfl, rfl⟩
      go_wp2_with fail
      go_ret
      exact ⟨rfl, rfl⟩
  · have t1 : decide (most < 0) = false := by simp; omega
    have t2 : decide (most < (0 : Int)) = false := by simp; omega
    by_cases hq : txt q = true
    all_goals
      have HQ := Lib.hid hq
      clear hq
      go_enter Tryz.func76, Tryz.ntmps76
      go_wp2_with fail
      first
        | refine (isText_yes q _ HQ.out).mono ?_
        | refine (isText_no q _ (by simpa using HQ.out)).mono ?_
      rintro e w' ⟨rfl, rfl⟩
      go_wp2_with fail
      refine (num_nil _ _).mono ?_
      rintro e w' ⟨rfl, rfl⟩
      go_wp2_with fail
      refine (take_nil _ _).mono ?_
      rintro e w' ⟨rfl, rfl⟩
      go_wp2_with fail
      go_ret
      exact ⟨rfl, rfl⟩

set_option maxHeartbeats 400000 in
theorem open_any (v : Value) (l : List UInt8) (d : Nat) (w : World) (h : Shows w d v l) (hl : l.length ≤ 140737488355328) :
    Calls Tryz.prog 57 #[v] w fun e w' => ∃ g d', e = .returned (.pointer (some ⟨g, 0, none⟩)) ∧ RS w' g d' (some l) ∧ w.heap.size ≤ g ∧ (w.heap.size ≤ d' ∧ d' ≤ g) ∧ Below w.heap.size w w' := by
  go_enter Tryz.func57, Tryz.ntmps57
  go_wp2_with fail
  refine (joined_any v _ l [] d 0 _ h (Shows.nil_ _ _) (by simpa using hl)).mono ?_
  rintro e w1 ⟨v1, rfl, ho1, hb1⟩
  rw [List.append_nil] at ho1
  obtain ⟨g1, hge, hgl, hs1⟩ := ho1.shows' hb1.size
  have hs := hs1
  obtain ⟨A, c, rfl, _⟩ := hs1
  go_wp2_with fail
  go_ret
  exact ⟨w1.heap.size, g1, rfl, ⟨A, c, heap_alloc_new w1 _, hs.keep (by simp) (fun hp => Below.heap_alloc w1 _ _ (hs.lt hp))⟩, hb1.size, ⟨hge, hgl⟩, hb1.alloc hb1.size _⟩

end Go.Proofs.YtdjahdnaihijjaaGreatDoor
/-
  What several proofs of this seat share: how Take answers, what Left answers, the ranges of integers that came in.
  Conditions: none.
-/
namespace Go.Proofs.YtdjahdnaihijjaaGreatDoor
open Go.ChangeShapes Go.WideShapes Go.ChangeAt Go.RowKit
set_option linter.unusedVariables false
set_option linter.unusedSimpArgs false

theorem takeS_far (n : Nat) (l : List UInt8) (h : l.length < n) : takeS (n : Int) (some l) = ([], none) := by simp only [takeS]; rw [if_neg (by omega)]
theorem takeS_ok (n : Nat) (l : List UInt8) (h : n ≤ l.length) : takeS (n : Int) (some l) = (l.take n, some (l.drop n)) := by simp only [takeS]; rw [if_pos (by omega)]; simp

theorem left_none (g d : Nat) (w : World) (h : RS w g d none) : Calls Tryz.prog 60 #[.pointer (some ⟨g, 0, none⟩)] w fun e w' => e = .returned (.int .i64 0) ∧ w = w' := by
  obtain ⟨l, hl⟩ := h
  exact left_any g d l false w hl
theorem left_some (g d : Nat) (l : List UInt8) (w : World) (h : RS w g d (some l)) : Calls Tryz.prog 60 #[.pointer (some ⟨g, 0, none⟩)] w fun e w' => e = .returned (.int .i64 l.length) ∧ w = w' := left_any g d l true w h

theorem left_some' (g d : Nat) (l : List UInt8) (m : Int) (w : World) (h : RS w g d (some l)) (hm : m = l.length) : Calls Tryz.prog 60 #[.pointer (some ⟨g, 0, none⟩)] w fun e w' => e = .returned (.int .i64 m) ∧ w = w' := by
  rw [hm]; exact left_some g d l w h

end Go.Proofs.YtdjahdnaihijjaaGreatDoor
