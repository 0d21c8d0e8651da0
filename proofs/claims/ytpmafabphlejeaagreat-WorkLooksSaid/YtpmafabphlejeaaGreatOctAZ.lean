/-
  Texts, together: OctA, OctB, OctC, OctD, OctE, OctS.
  Conditions: none but sizes.
-/
import Derived.Test.YtpmafabphlejeaaGreatMemZ
import Derived.Deep.QuietTactic
import Derived.BigQuiet
import Derived.Laws.BitsAllLaws
import Derived.Test.YtpmafabphlejeaaGreatRowkitZ
/-
  The contracts of octet.digits and octet.joined: what they return, as lists of bytes, in new memory.
  Conditions: none but that the joined bytes are at most 2^47.
-/
namespace Go.Proofs.YtpmafabphlejeaaGreat
open Go.RowKit
set_option linter.unusedVariables false
set_option linter.unusedSimpArgs false

/-- The lowest k bytes of n, the highest first. -/
def be : Nat → Nat → List UInt8
  | 0, _ => []
  | k + 1, n => be k (n / 256) ++ [UInt8.ofNat n]

theorem be_length : ∀ k n, (be k n).length = k
  | 0, _ => rfl
  | k + 1, n => by simp [be, be_length k]

/-- A width that an integer may have, as a number of bytes; else 0. -/
def wd (w : Int) : Nat := if w = 1 then 1 else if w = 2 then 2 else if w = 4 then 4 else if w = 8 then 8 else 0

theorem wd_le (w : Int) : wd w ≤ 8 := by unfold wd; split <;> (try omega); split <;> (try omega); split <;> (try omega); split <;> omega

set_option maxHeartbeats 400000 in
theorem digits1 (n : Nat) (w : World) :
    Calls Tryz.prog 134 #[.int .u64 n, .int .i64 1] w fun e w' => ∃ v, e = .returned v ∧ Own 5 w' w.heap.size v (be 1 n) ∧ Below w.heap.size w w' := by
  go_enter Tryz.func134, Tryz.ntmps134
  go_wp2_with (at_builtin
               refine wpList_append8 _ rfl (.tmp 45) (.tmp 48) 133 rfl w.heap.size 5 Tryz.underlying133 info5 (.slice none 0 0) [] rfl (Own.nil_ _ _ _) w.heap.size (.slice (some ⟨w.heap.size, 0, none⟩) 1 1) [UInt8.ofNat n] rfl (Shows.lit (w := w) [UInt8.ofNat n] (by simp [bs, u8c]) (by simp [maxLen])) (by simp) (by simp) ?_
               intro v1 w1 ho1 hg1)
  go_ret
  exact ⟨v1, rfl, ho1, ((Below.refl _ _).alloc (Nat.le_refl _) _).grown hg1 (by simp) (by simp [Value.ownBlock])⟩

set_option maxHeartbeats 400000 in
theorem digits2 (n : Nat) (w : World) :
    Calls Tryz.prog 134 #[.int .u64 n, .int .i64 2] w fun e w' => ∃ v, e = .returned v ∧ Own 5 w' w.heap.size v (be 2 n) ∧ Below w.heap.size w w' := by
  go_enter Tryz.func134, Tryz.ntmps134
  go_wp2_with (first
    | (at_builtin
       refine wpList_append8 _ rfl (.tmp 39) (.tmp 43) 133 rfl w.heap.size 5 Tryz.underlying133 info5 (.slice none 0 0) [] rfl (Own.nil_ _ _ _) w.heap.size (.slice (some ⟨w.heap.size, 0, none⟩) 1 1) [UInt8.ofNat (n / 256)] rfl (Shows.lit (w := w) [UInt8.ofNat (n / 256)] (by simp [bs, u8c]) (by simp [maxLen])) (by simp) (by simp) ?_
       intro v1 w1 ho1 hg1
       have hb1 : Below w.heap.size w w1 := ((Below.refl _ _).alloc (Nat.le_refl _) _).grown hg1 (by simp) (by simp [Value.ownBlock])
       have hz1 := hb1.size)
    | (at_builtin
       refine wpList_append8 _ rfl (.tmp 45) (.tmp 48) 133 rfl w.heap.size 5 Tryz.underlying133 info5 v1 _ rfl (ho1.alloc_ _) w1.heap.size (.slice (some ⟨w1.heap.size, 0, none⟩) 1 1) [UInt8.ofNat n] rfl (Shows.lit (w := w1) [UInt8.ofNat n] (by simp [bs, u8c]) (by simp [maxLen])) (by simp) (by simp; omega) ?_
       intro v2 w2 ho2 hg2))
  go_ret
  exact ⟨v2, rfl, ho2, frame1 hb1 ho1 hg2⟩

set_option maxHeartbeats 400000 in
theorem digits4 (n : Nat) (w : World) :
    Calls Tryz.prog 134 #[.int .u64 n, .int .i64 4] w fun e w' => ∃ v, e = .returned v ∧ Own 5 w' w.heap.size v (be 4 n) ∧ Below w.heap.size w w' := by
  go_enter Tryz.func134, Tryz.ntmps134
  go_wp2_with (first
    | (at_builtin
       refine wpList_append8 _ rfl (.tmp 30) (.tmp 37) 133 rfl w.heap.size 5 Tryz.underlying133 info5 (.slice none 0 0) [] rfl (Own.nil_ _ _ _) w.heap.size (.slice (some ⟨w.heap.size, 0, none⟩) 2 2) [UInt8.ofNat (n / 16777216), UInt8.ofNat (n / 65536)] rfl (Shows.lit (w := w) [UInt8.ofNat (n / 16777216), UInt8.ofNat (n / 65536)] (by simp [bs, u8c]) (by simp [maxLen])) (by simp) (by simp) ?_
       intro v0 w0 ho0 hg0
       have hb0 : Below w.heap.size w w0 := ((Below.refl _ _).alloc (Nat.le_refl _) _).grown hg0 (by simp) (by simp [Value.ownBlock])
       have hz0 := hb0.size)
    | (at_builtin
       refine wpList_append8 _ rfl (.tmp 39) (.tmp 43) 133 rfl w.heap.size 5 Tryz.underlying133 info5 v0 _ rfl (ho0.alloc_ _) w0.heap.size (.slice (some ⟨w0.heap.size, 0, none⟩) 1 1) [UInt8.ofNat (n / 256)] rfl (Shows.lit (w := w0) [UInt8.ofNat (n / 256)] (by simp [bs, u8c]) (by simp [maxLen])) (by simp) (by simp; omega) ?_
       intro v1 w1 ho1 hg1
       have hb1 : Below w.heap.size w w1 := frame1 hb0 ho0 hg1
       have hz1 := hb1.size)
    | (at_builtin
       refine wpList_append8 _ rfl (.tmp 45) (.tmp 48) 133 rfl w.heap.size 5 Tryz.underlying133 info5 v1 _ rfl (ho1.alloc_ _) w1.heap.size (.slice (some ⟨w1.heap.size, 0, none⟩) 1 1) [UInt8.ofNat n] rfl (Shows.lit (w := w1) [UInt8.ofNat n] (by simp [bs, u8c]) (by simp [maxLen])) (by simp) (by simp; omega) ?_
       intro v2 w2 ho2 hg2))
  go_ret
  exact ⟨v2, rfl, by simpa [be, Nat.div_div_eq_div_mul] using ho2, frame1 hb1 ho1 hg2⟩

set_option maxHeartbeats 800000 in
theorem digits8 (n : Nat) (w : World) :
    Calls Tryz.prog 134 #[.int .u64 n, .int .i64 8] w fun e w' => ∃ v, e = .returned v ∧ Own 5 w' w.heap.size v (be 8 n) ∧ Below w.heap.size w w' := by
  go_enter Tryz.func134, Tryz.ntmps134
  go_wp2_with (first
    | (at_builtin
       refine wpList_append8 _ rfl (.tmp 15) (.tmp 28) 133 rfl w.heap.size 5 Tryz.underlying133 info5 (.slice none 0 0) [] rfl (Own.nil_ _ _ _) w.heap.size (.slice (some ⟨w.heap.size, 0, none⟩) 4 4) [UInt8.ofNat (n / 72057594037927936), UInt8.ofNat (n / 281474976710656), UInt8.ofNat (n / 1099511627776), UInt8.ofNat (n / 4294967296)] rfl (Shows.lit (w := w) [UInt8.ofNat (n / 72057594037927936), UInt8.ofNat (n / 281474976710656), UInt8.ofNat (n / 1099511627776), UInt8.ofNat (n / 4294967296)] (by simp [bs, u8c]) (by simp [maxLen])) (by simp) (by simp) ?_
       intro v9 w9 ho9 hg9
       have hb9 : Below w.heap.size w w9 := ((Below.refl _ _).alloc (Nat.le_refl _) _).grown hg9 (by simp) (by simp [Value.ownBlock])
       have hz9 := hb9.size)
    | (at_builtin
       refine wpList_append8 _ rfl (.tmp 30) (.tmp 37) 133 rfl w.heap.size 5 Tryz.underlying133 info5 v9 _ rfl (ho9.alloc_ _) w9.heap.size (.slice (some ⟨w9.heap.size, 0, none⟩) 2 2) [UInt8.ofNat (n / 16777216), UInt8.ofNat (n / 65536)] rfl (Shows.lit (w := w9) [UInt8.ofNat (n / 16777216), UInt8.ofNat (n / 65536)] (by simp [bs, u8c]) (by simp [maxLen])) (by simp) (by simp; omega) ?_
       intro v0 w0 ho0 hg0
       have hb0 : Below w.heap.size w w0 := frame1 hb9 ho9 hg0
       have hz0 := hb0.size)
    | (at_builtin
       refine wpList_append8 _ rfl (.tmp 39) (.tmp 43) 133 rfl w.heap.size 5 Tryz.underlying133 info5 v0 _ rfl (ho0.alloc_ _) w0.heap.size (.slice (some ⟨w0.heap.size, 0, none⟩) 1 1) [UInt8.ofNat (n / 256)] rfl (Shows.lit (w := w0) [UInt8.ofNat (n / 256)] (by simp [bs, u8c]) (by simp [maxLen])) (by simp) (by simp; omega) ?_
       intro v1 w1 ho1 hg1
       have hb1 : Below w.heap.size w w1 := frame1 hb0 ho0 hg1
       have hz1 := hb1.size)
    | (at_builtin
       refine wpList_append8 _ rfl (.tmp 45) (.tmp 48) 133 rfl w.heap.size 5 Tryz.underlying133 info5 v1 _ rfl (ho1.alloc_ _) w1.heap.size (.slice (some ⟨w1.heap.size, 0, none⟩) 1 1) [UInt8.ofNat n] rfl (Shows.lit (w := w1) [UInt8.ofNat n] (by simp [bs, u8c]) (by simp [maxLen])) (by simp) (by simp; omega) ?_
       intro v2 w2 ho2 hg2))
  go_ret
  exact ⟨v2, rfl, by simpa [be, Nat.div_div_eq_div_mul] using ho2, frame1 hb1 ho1 hg2⟩

set_option maxHeartbeats 400000 in
theorem digits0 (n : Nat) (q : Int) (h8 : (q == 8) = false) (h4 : (q == 4) = false) (h2 : (q == 2) = false) (h1 : (q == 1) = false) (w : World) :
    Calls Tryz.prog 134 #[.int .u64 n, .int .i64 q] w fun e w' => ∃ v, e = .returned v ∧ Own 5 w' w.heap.size v [] ∧ Below w.heap.size w w' := by
  go_enter Tryz.func134, Tryz.ntmps134
  go_wp2
  go_ret
  exact ⟨_, rfl, Own.nil_ _ _ _, Below.refl _ _⟩

theorem digits_any (n : Nat) (q : Int) (w : World) :
    Calls Tryz.prog 134 #[.int .u64 n, .int .i64 q] w fun e w' => ∃ v, e = .returned v ∧ Own 5 w' w.heap.size v (be (wd q) n) ∧ Below w.heap.size w w' := by
  by_cases h1 : q = 1
  · subst h1; exact digits1 n w
  by_cases h2 : q = 2
  · subst h2; exact digits2 n w
  by_cases h4 : q = 4
  · subst h4; exact digits4 n w
  by_cases h8 : q = 8
  · subst h8; exact digits8 n w
  have e : wd q = 0 := by simp [wd, h1, h2, h4, h8]
  rw [e]
  exact digits0 n q (by simpa using h8) (by simpa using h4) (by simpa using h2) (by simpa using h1) w

end Go.Proofs.YtpmafabphlejeaaGreat
/-
  The contract of octet.joined: new memory with the bytes of both, one behind the other.
  Condition: together at most 2^47 bytes.
-/
namespace Go.Proofs.YtpmafabphlejeaaGreat
open Go.RowKit
set_option linter.unusedVariables false
set_option linter.unusedSimpArgs false

set_option maxHeartbeats 400000 in
theorem joined_s (A1 A2 : Option Addr) (c1 c2 n1 n2 : Nat) (l1 l2 : List UInt8) (d1 d2 : Nat) (w : World) (e1 : l1.length = n1) (e2 : l2.length = n2) (h1 : Shows w d1 (.slice A1 n1 c1) l1) (h2 : Shows w d2 (.slice A2 n2 c2) l2) (hl : n1 + n2 ≤ 140737488355328) :
    Calls Tryz.prog 133 #[.slice A1 n1 c1, .slice A2 n2 c2] w fun e w' => ∃ v, e = .returned v ∧ Own 5 w' w.heap.size v (l1 ++ l2) ∧ Below w.heap.size w w' := by
  have E1 := Lib.hid e1
  have E2 := Lib.hid e2
  clear e1 e2
  obtain ⟨i, hi, hz, hs, hb⟩ := info_parts info5
  have hby : i.bytes * (n1 + n2) ≤ 281474976710656 := by rw [hb]; omega
  have HI := Lib.hid hi
  have HZ := Lib.hid hz
  have HS := Lib.hid hs
  clear hi hz hs hb
  go_enter Tryz.func133, Tryz.ntmps133
  go_wp2_with (first
    | (at_make
       refine wpList_make_own _ rfl (.const (.int .i64 0)) (.tmp 10) 133 rfl w.heap.size 5 i (.int .u8 0) 1 Tryz.underlying133 HI.out HZ.out HS.out .i64 .i64 _ (n1 + n2) rfl rfl (by omega) hby (by simp only [maxLen]; omega) (Nat.le_refl _) ?_
       intro w1 ho1' hg1
       have ho1 : Own 5 w1 w.heap.size (.slice (some ⟨w.heap.size, 0, none⟩) 0 (n1 + n2)) [] := ho1'
       clear ho1'
       have hb1 : Below w.heap.size w w1 := (Below.refl _ _).grown hg1 (Nat.le_refl _) (by simp)
       have hz1 := hb1.size
       have hd1 := h1.grown hg1 (by simp)
       have hd2 := h2.grown hg1 (by simp))
    | (at_builtin
       refine wpList_append8 _ rfl (.tmp 12) (.tmp 13) 133 rfl w.heap.size 5 Tryz.underlying133 info5 _ [] rfl ho1 d1 (.slice A1 n1 c1) l1 rfl hd1 (by simp [E1.out]; omega) hz1 ?_
       intro v2 w2 ho2 hg2
       have hb2 : Below w.heap.size w w2 := hb1.grown hg2 hz1 (fun k hk => (ho1.block k hk).1)
       have hz2 := hb2.size
       have hd3 : Shows w2 d2 (.slice A2 n2 c2) l2 := h2.keep hz2 (fun hp => hb2.block _ (h2.lt hp)))
    | (at_builtin
       refine wpList_append8 _ rfl (.tmp 15) (.tmp 16) 133 rfl w.heap.size 5 Tryz.underlying133 info5 v2 _ rfl ho2 d2 (.slice A2 n2 c2) l2 rfl hd3 (by simp [E1.out, E2.out]; omega) hz2 ?_
       intro v3 w3 ho3 hg3))
  go_ret
  exact ⟨v3, rfl, ho3, hb2.grown hg3 hz2 (fun k hk => (ho2.block k hk).1)⟩

theorem joined_any (v1 v2 : Value) (l1 l2 : List UInt8) (d1 d2 : Nat) (w : World) (h1 : Shows w d1 v1 l1) (h2 : Shows w d2 v2 l2) (hl : l1.length + l2.length ≤ 140737488355328) :
    Calls Tryz.prog 133 #[v1, v2] w fun e w' => ∃ v, e = .returned v ∧ Own 5 w' w.heap.size v (l1 ++ l2) ∧ Below w.heap.size w w' := by
  have k1 := h1
  have k2 := h2
  obtain ⟨A1, c1, rfl, _⟩ := h1
  obtain ⟨A2, c2, rfl, _⟩ := h2
  exact joined_s A1 A2 c1 c2 _ _ l1 l2 d1 d2 w rfl rfl k1 k2 hl

theorem be_wd_length (q : Int) (n : Nat) : (be (wd q) n).length ≤ 8 := by rw [be_length]; exact wd_le q

set_option maxHeartbeats 400000 in
theorem put_any (v : Value) (l : List UInt8) (d n : Nat) (q : Int) (w : World) (h : Shows w d v l) (hl : l.length ≤ 140737488355320) :
    Calls Tryz.prog 117 #[v, .int .u64 n, .int .i64 q] w fun e w' => ∃ v', e = .returned v' ∧ Own 5 w' w.heap.size v' (l ++ be (wd q) n) ∧ Below w.heap.size w w' := by
  have hbl := be_wd_length q n
  go_enter Tryz.func117, Tryz.ntmps117
  go_wp2_with fail
  refine (digits_any n q _).mono ?_
  rintro e w1 ⟨v1, rfl, ho1, hb1⟩
  obtain ⟨g1, hg1, hs1⟩ := ho1.shows
  have hs0 : Shows w1 d v l := h.keep hb1.size fun hp => hb1.block _ (h.lt hp)
  have hz1 := hb1.size
  go_wp2_with fail
  refine (joined_any v v1 l _ d g1 w1 hs0 hs1 (by omega)).mono ?_
  rintro e w2 ⟨v2, rfl, ho2, hb2⟩
  go_wp2_with fail
  go_ret
  exact ⟨v2, rfl, ho2.mono hz1, hb1.trans (hb2.mono hz1)⟩

set_option maxHeartbeats 400000 in
theorem isText1 (q : Int) (w : World) (h : q = 1 ∨ q = 2 ∨ q = 4) : Calls Tryz.prog 136 #[.int .i64 q] w fun e w' => e = .returned (.bool true) ∧ w = w' := by
  rcases h with rfl | rfl | rfl
  all_goals
    go_enter Tryz.func136, Tryz.ntmps136
    go_wp2
    go_ret
    exact ⟨rfl, rfl⟩

set_option maxHeartbeats 400000 in
theorem isText0 (q : Int) (w : World) (h1 : (q == 1) = false) (h2 : (q == 2) = false) (h4 : (q == 4) = false) : Calls Tryz.prog 136 #[.int .i64 q] w fun e w' => e = .returned (.bool false) ∧ w = w' := by
  go_enter Tryz.func136, Tryz.ntmps136
  go_wp2
  go_ret
  exact ⟨rfl, rfl⟩

/-- A text may have this width. -/
def txt (q : Int) : Bool := decide (q = 1 ∨ q = 2 ∨ q = 4)
/-- An integer may have this width. -/
def num (q : Int) : Bool := decide (q = 1 ∨ q = 2 ∨ q = 4 ∨ q = 8)

theorem txt_no {q : Int} (h : txt q = false) : (q == 1) = false ∧ (q == 2) = false ∧ (q == 4) = false := by
  simp [txt] at h; simp [h]
theorem isText_yes (q : Int) (w : World) (h : txt q = true) : Calls Tryz.prog 136 #[.int .i64 q] w fun e w' => e = .returned (.bool true) ∧ w = w' := isText1 q w (by simpa [txt] using h)
theorem isText_no (q : Int) (w : World) (h : txt q = false) : Calls Tryz.prog 136 #[.int .i64 q] w fun e w' => e = .returned (.bool false) ∧ w = w' := isText0 q w (txt_no h).1 (txt_no h).2.1 (txt_no h).2.2

set_option maxHeartbeats 400000 in
theorem putText_arg (v : Value) (s : ByteArray) (q : Int) (w : World) (h : txt q = false) :
    Calls Tryz.prog 119 #[v, .string s, .int .i64 q] w fun e w' => e = .returned (.tuple #[.slice none 0 0, .int .i64 2]) ∧ w = w' := by
  have H := Lib.hid h
  clear h
  go_enter Tryz.func119, Tryz.ntmps119
  go_wp2_with fail
  refine (isText_no q _ H.out).mono ?_
  rintro e w' ⟨rfl, rfl⟩
  go_wp2_with fail
  go_ret2
  exact ⟨rfl, rfl⟩

set_option maxHeartbeats 400000 in
theorem putText_long1 (v : Value) (s : ByteArray) (w : World) (hs : s.size ≤ 140737488355328) (h : 256 ≤ s.size) :
    Calls Tryz.prog 119 #[v, .string s, .int .i64 1] w fun e w' => e = .returned (.tuple #[.slice none 0 0, .int .i64 3]) ∧ w = w' := by
  have ht : ((s.size : Int) / 256 != 0) = true := by simp; omega
  go_enter Tryz.func119, Tryz.ntmps119
  go_wp2_with fail
  refine (isText_yes 1 _ rfl).mono ?_
  rintro e w' ⟨rfl, rfl⟩
  go_wp2_with fail
  go_ret2
  exact ⟨rfl, rfl⟩

set_option maxHeartbeats 400000 in
theorem putText_ok1 (v : Value) (l : List UInt8) (d : Nat) (s : ByteArray) (w : World) (hv : Shows w d v l) (hl : l.length + s.size ≤ 140737488355320) (h : s.size < 256) :
    Calls Tryz.prog 119 #[v, .string s, .int .i64 1] w fun e w' => ∃ v', e = .returned (.tuple #[v', .int .i64 0]) ∧ Own 5 w' w.heap.size v' (l ++ (be 1 s.size ++ sb s)) ∧ Below w.heap.size w w' := by
  have ht : ((s.size : Int) / 256 != 0) = false := by simp; omega
  have hsl := sb_length s
  have HSL := Lib.hid hsl
  clear hsl
  go_enter Tryz.func119, Tryz.ntmps119
  go_wp2_with fail
  refine (isText_yes 1 _ rfl).mono ?_
  rintro e w' ⟨rfl, rfl⟩
  go_wp2_with fail
  refine (digits_any s.size 1 _).mono ?_
  rintro e w1 ⟨v1, rfl, ho1, hb1⟩
  have hz1 := hb1.size
  go_wp2_with (at_builtin
               refine wpList_append8s _ rfl (.tmp 23) (.tmp 24) 133 9 rfl w.heap.size 5 Tryz.underlying133 Tryz.underlying9 info5 v1 _ rfl ho1 s rfl (by rw [be_length]; have := wd_le 1; omega) hz1 ?_
               intro v2 w2 ho2 hg2
               have hb2 : Below w.heap.size w w2 := hb1.grown hg2 hz1 (fun k hk => (ho1.block k hk).1)
               have hz2 := hb2.size)
  obtain ⟨g2, _, hs2⟩ := ho2.shows
  refine (joined_any v v2 l _ d g2 w2 (hv.keep hz2 fun hp => hb2.block _ (hv.lt hp)) hs2 (by rw [List.length_append, be_length, HSL.out]; have := wd_le 1; omega)).mono ?_
  rintro e w3 ⟨v3, rfl, ho3, hb3⟩
  go_wp2_with fail
  go_ret2
  exact ⟨v3, rfl, ho3.mono hz2, hb2.trans (hb3.mono hz2)⟩

set_option maxHeartbeats 400000 in
theorem putText_long2 (v : Value) (s : ByteArray) (w : World) (hs : s.size ≤ 140737488355328) (h : 65536 ≤ s.size) :
    Calls Tryz.prog 119 #[v, .string s, .int .i64 2] w fun e w' => e = .returned (.tuple #[.slice none 0 0, .int .i64 3]) ∧ w = w' := by
  have ht : ((s.size : Int) / 65536 != 0) = true := by simp; omega
  go_enter Tryz.func119, Tryz.ntmps119
  go_wp2_with fail
  refine (isText_yes 2 _ rfl).mono ?_
  rintro e w' ⟨rfl, rfl⟩
  go_wp2_with fail
  go_ret2
  exact ⟨rfl, rfl⟩

set_option maxHeartbeats 400000 in
theorem putText_ok2 (v : Value) (l : List UInt8) (d : Nat) (s : ByteArray) (w : World) (hv : Shows w d v l) (hl : l.length + s.size ≤ 140737488355320) (h : s.size < 65536) :
    Calls Tryz.prog 119 #[v, .string s, .int .i64 2] w fun e w' => ∃ v', e = .returned (.tuple #[v', .int .i64 0]) ∧ Own 5 w' w.heap.size v' (l ++ (be 2 s.size ++ sb s)) ∧ Below w.heap.size w w' := by
  have ht : ((s.size : Int) / 65536 != 0) = false := by simp; omega
  have hsl := sb_length s
  have HSL := Lib.hid hsl
  clear hsl
  go_enter Tryz.func119, Tryz.ntmps119
  go_wp2_with fail
  refine (isText_yes 2 _ rfl).mono ?_
  rintro e w' ⟨rfl, rfl⟩
  go_wp2_with fail
  refine (digits_any s.size 2 _).mono ?_
  rintro e w1 ⟨v1, rfl, ho1, hb1⟩
  have hz1 := hb1.size
  go_wp2_with (at_builtin
               refine wpList_append8s _ rfl (.tmp 23) (.tmp 24) 133 9 rfl w.heap.size 5 Tryz.underlying133 Tryz.underlying9 info5 v1 _ rfl ho1 s rfl (by rw [be_length]; have := wd_le 2; omega) hz1 ?_
               intro v2 w2 ho2 hg2
               have hb2 : Below w.heap.size w w2 := hb1.grown hg2 hz1 (fun k hk => (ho1.block k hk).1)
               have hz2 := hb2.size)
  obtain ⟨g2, _, hs2⟩ := ho2.shows
  refine (joined_any v v2 l _ d g2 w2 (hv.keep hz2 fun hp => hb2.block _ (hv.lt hp)) hs2 (by rw [List.length_append, be_length, HSL.out]; have := wd_le 2; omega)).mono ?_
  rintro e w3 ⟨v3, rfl, ho3, hb3⟩
  go_wp2_with fail
  go_ret2
  exact ⟨v3, rfl, ho3.mono hz2, hb2.trans (hb3.mono hz2)⟩

set_option maxHeartbeats 400000 in
theorem putText_long4 (v : Value) (s : ByteArray) (w : World) (hs : s.size ≤ 140737488355328) (h : 4294967296 ≤ s.size) :
    Calls Tryz.prog 119 #[v, .string s, .int .i64 4] w fun e w' => e = .returned (.tuple #[.slice none 0 0, .int .i64 3]) ∧ w = w' := by
  have ht : ((s.size : Int) / 4294967296 != 0) = true := by simp; omega
  go_enter Tryz.func119, Tryz.ntmps119
  go_wp2_with fail
  refine (isText_yes 4 _ rfl).mono ?_
  rintro e w' ⟨rfl, rfl⟩
  go_wp2_with fail
  go_ret2
  exact ⟨rfl, rfl⟩

set_option maxHeartbeats 400000 in
theorem putText_ok4 (v : Value) (l : List UInt8) (d : Nat) (s : ByteArray) (w : World) (hv : Shows w d v l) (hl : l.length + s.size ≤ 140737488355320) (h : s.size < 4294967296) :
    Calls Tryz.prog 119 #[v, .string s, .int .i64 4] w fun e w' => ∃ v', e = .returned (.tuple #[v', .int .i64 0]) ∧ Own 5 w' w.heap.size v' (l ++ (be 4 s.size ++ sb s)) ∧ Below w.heap.size w w' := by
  have ht : ((s.size : Int) / 4294967296 != 0) = false := by simp; omega
  have hsl := sb_length s
  have HSL := Lib.hid hsl
  clear hsl
  go_enter Tryz.func119, Tryz.ntmps119
  go_wp2_with fail
  refine (isText_yes 4 _ rfl).mono ?_
  rintro e w' ⟨rfl, rfl⟩
  go_wp2_with fail
  refine (digits_any s.size 4 _).mono ?_
  rintro e w1 ⟨v1, rfl, ho1, hb1⟩
  have hz1 := hb1.size
  go_wp2_with (at_builtin
               refine wpList_append8s _ rfl (.tmp 23) (.tmp 24) 133 9 rfl w.heap.size 5 Tryz.underlying133 Tryz.underlying9 info5 v1 _ rfl ho1 s rfl (by rw [be_length]; have := wd_le 4; omega) hz1 ?_
               intro v2 w2 ho2 hg2
               have hb2 : Below w.heap.size w w2 := hb1.grown hg2 hz1 (fun k hk => (ho1.block k hk).1)
               have hz2 := hb2.size)
  obtain ⟨g2, _, hs2⟩ := ho2.shows
  refine (joined_any v v2 l _ d g2 w2 (hv.keep hz2 fun hp => hb2.block _ (hv.lt hp)) hs2 (by rw [List.length_append, be_length, HSL.out]; have := wd_le 4; omega)).mono ?_
  rintro e w3 ⟨v3, rfl, ho3, hb3⟩
  go_wp2_with fail
  go_ret2
  exact ⟨v3, rfl, ho3.mono hz2, hb2.trans (hb3.mono hz2)⟩

end Go.Proofs.YtpmafabphlejeaaGreat
/-
  The contracts of the reader's methods: what they return and what is left of the reader.
-/
namespace Go.Proofs.YtpmafabphlejeaaGreat
open Go.RowKit
set_option linter.unusedVariables false
set_option linter.unusedSimpArgs false

section
variable {w w' : World} {g d : Nat} {l : List UInt8} {good : Bool}
end

theorem cutFrame {w w1 : World} {g : Nat} (hb : Below w.heap.size w w1) (u : Value) : w.grownBy (w1.setCell ⟨g, 0, none⟩ u) (some g) :=
  ⟨hb.os, hb.tape, hb.output, by simpa [World.setCell] using hb.size, fun k hk hne => (Below.heap_setCell _ _ _ _ (fun e => hne (by rw [e]))).trans (hb.block k hk)⟩

end Go.Proofs.YtpmafabphlejeaaGreat
/-
  The contracts of the reader's Take, Num, Text and Open.
-/
namespace Go.Proofs.YtpmafabphlejeaaGreat
open Go.RowKit
set_option linter.unusedVariables false
set_option linter.unusedSimpArgs false

/-- What Take does. -/
def takeS (n : Int) : Option (List UInt8) → List UInt8 × Option (List UInt8)
  | none => ([], none)
  | some l => if 0 ≤ n ∧ n ≤ l.length then (l.take n.toNat, some (l.drop n.toNat)) else ([], none)

def lenS : Option (List UInt8) → Nat
  | some l => l.length
  | none => 0

section
variable {w w' : World} {g d : Nat} {s : Option (List UInt8)}
end

theorem grown_refl (w : World) (r : Option Nat) : w.grownBy w r := ⟨rfl, rfl, rfl, Nat.le_refl _, fun _ _ _ => rfl⟩

/-- The number that bytes are, the highest first. -/
def numOf (l : List UInt8) : Nat := l.foldl (fun n b => n * 256 + b.toNat) 0

/-- What Num does. -/
def numS (q : Int) (s : Option (List UInt8)) : Nat × Option (List UInt8) := (numOf (takeS (if num q = true then q else -1) s).1, (takeS (if num q = true then q else -1) s).2)

theorem foldl_num : ∀ (l : List UInt8) (a : Nat), l.foldl (fun n b => n * 256 + b.toNat) a < (a + 1) * 256 ^ l.length
  | [], a => by simp
  | b :: l, a => by
    rw [List.foldl_cons, List.length_cons, Nat.pow_succ]
    have h := foldl_num l (a * 256 + b.toNat)
    have hb := b.toNat_lt
    have h2 : (a * 256 + b.toNat + 1) ≤ (a + 1) * 256 := by omega
    calc _ < (a * 256 + b.toNat + 1) * 256 ^ l.length := h
      _ ≤ ((a + 1) * 256) * 256 ^ l.length := Nat.mul_le_mul_right _ h2
      _ = (a + 1) * (256 ^ l.length * 256) := by rw [Nat.mul_assoc, Nat.mul_comm 256]

theorem numOf_lt (l : List UInt8) : numOf l < 256 ^ l.length := by simpa [numOf] using foldl_num l 0
theorem numOf_snoc (l : List UInt8) (b : UInt8) : numOf (l ++ [b]) = numOf l * 256 + b.toNat := by simp [numOf]
theorem numOf_take7 (l : List UInt8) (k : Nat) (h : k < 8) : numOf (l.take k) < 72057594037927936 := by
  have h1 := numOf_lt (l.take k)
  have h2 : (l.take k).length ≤ 7 := by simp; omega
  have h3 : 256 ^ (l.take k).length ≤ 256 ^ 7 := Nat.pow_le_pow_right (by omega) h2
  exact Nat.lt_of_lt_of_le h1 (Nat.le_trans h3 (by decide))
theorem orJoin (x b : Nat) (hx : (x : Int) < 72057594037927936) (hb : (b : Int) < 256) : bits .or .u64 ((x : Int) * 256) (b : Int) = ((x * 256 + b : Nat) : Int) := by
  have e : ((x : Int) * 256) = ((x * 256 : Nat) : Int) := by simp
  rw [e, u64_or_nat (x * 256) b (by omega) (by omega), Nat.or_comm, nat_join8' (x * 256) b (by omega) (by omega)]

theorem takeS_len (n : Int) (s : Option (List UInt8)) : ((takeS n s).1.length : Int) ≤ max n 0 := by
  cases s with
  | none => simp [takeS]; omega
  | some l =>
    simp only [takeS]
    split
    · simp; omega
    · simp; omega
theorem num_le8 {q : Int} (h : num q = true) : q ≤ 8 := by simp [num] at h; omega

end Go.Proofs.YtpmafabphlejeaaGreat
/-
  The contracts of the reader's Text and of Open.
-/
namespace Go.Proofs.YtpmafabphlejeaaGreat
open Go.RowKit
set_option linter.unusedVariables false
set_option linter.unusedSimpArgs false

theorem grown_trans' {a b c : World} {r : Option Nat} (h : a.grownBy b r) (k : b.grownBy c r) : a.grownBy c r :=
  ⟨k.os.trans h.os, k.tape.trans h.tape, k.output.trans h.output, Nat.le_trans h.size k.size, fun i hi hne => (k.block i (Nat.lt_of_lt_of_le hi h.size) hne).trans (h.block i hi hne)⟩

/-- What Text does behind the length. -/
def textT (most : Int) (p : Nat × Option (List UInt8)) : List UInt8 × Option (List UInt8) :=
  if most < 0 ∨ most < p.1 then ([], (takeS (-1) p.2).2) else takeS (p.1 : Nat) p.2
/-- What Text does. -/
def textS (q most : Int) (s : Option (List UInt8)) : List UInt8 × Option (List UInt8) := textT most (numS (if txt q = true then q else -1) s)

theorem takeS_lenS (n : Int) (s : Option (List UInt8)) : lenS (takeS n s).2 ≤ lenS s := by
  cases s with
  | none => simp [takeS]
  | some l => simp only [takeS]; split <;> simp [lenS]
theorem numS_lenS (q : Int) (s : Option (List UInt8)) : lenS (numS q s).2 ≤ lenS s := takeS_lenS _ _

end Go.Proofs.YtpmafabphlejeaaGreat
/-
  What several proofs of this seat share: how Take answers, what Left answers, the ranges of integers that came in.
  Conditions: none.
-/
namespace Go.Proofs.YtpmafabphlejeaaGreat
open Go.ChangeShapes Go.WideShapes Go.ChangeAt Go.RowKit
set_option linter.unusedVariables false
set_option linter.unusedSimpArgs false

theorem takeS_far (n : Nat) (l : List UInt8) (h : l.length < n) : takeS (n : Int) (some l) = ([], none) := by simp only [takeS]; rw [if_neg (by omega)]
theorem takeS_ok (n : Nat) (l : List UInt8) (h : n ≤ l.length) : takeS (n : Int) (some l) = (l.take n, some (l.drop n)) := by simp only [takeS]; rw [if_pos (by omega)]; simp

end Go.Proofs.YtpmafabphlejeaaGreat
