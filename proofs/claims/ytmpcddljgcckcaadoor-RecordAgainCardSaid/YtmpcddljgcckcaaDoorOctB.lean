/-
  The contract of octet.joined: new memory with the bytes of both, one behind the other.
  Condition: together at most 2^47 bytes.
-/
import Derived.Test.YtmpcddljgcckcaaDoorOctA
import Derived.Deep.QuietTactic
import Derived.BigQuiet
namespace Go.Proofs.YtmpcddljgcckcaaDoor
open Go.RowKit
set_option linter.unusedVariables false
set_option linter.unusedSimpArgs false

set_option maxHeartbeats 400000 in
theorem joined_s (A1 A2 : Option Addr) (c1 c2 n1 n2 : Nat) (l1 l2 : List UInt8) (d1 d2 : Nat) (w : World) (e1 : l1.length = n1) (e2 : l2.length = n2) (h1 : Shows w d1 (.slice A1 n1 c1) l1) (h2 : Shows w d2 (.slice A2 n2 c2) l2) (hl : n1 + n2 ≤ 140737488355328) :
    Calls Tryd.prog 38 #[.slice A1 n1 c1, .slice A2 n2 c2] w fun e w' => ∃ v, e = .returned v ∧ Own 5 w' w.heap.size v (l1 ++ l2) ∧ Below w.heap.size w w' := by
  have E1 := Lib.hid e1
  have E2 := Lib.hid e2
  clear e1 e2
  obtain ⟨i, hi, hz, hs, hb⟩ := info_parts info5
  have hby : i.bytes * (n1 + n2) ≤ 281474976710656 := by rw [hb]; omega
  have HI := Lib.hid hi
  have HZ := Lib.hid hz
  have HS := Lib.hid hs
  clear hi hz hs hb
  go_enter Tryd.func38, Tryd.ntmps38
  go_wp2_with (first
    | (at_make
       refine wpList_make_own _ rfl (.const (.int .i64 0)) (.tmp 10) 31 rfl w.heap.size 5 i (.int .u8 0) 1 Tryd.underlying31 HI.out HZ.out HS.out .i64 .i64 _ (n1 + n2) rfl rfl (by omega) hby (by simp only [maxLen]; omega) (Nat.le_refl _) ?_
       intro w1 ho1' hg1
       have ho1 : Own 5 w1 w.heap.size (.slice (some ⟨w.heap.size, 0, none⟩) 0 (n1 + n2)) [] := ho1'
       clear ho1'
       have hb1 : Below w.heap.size w w1 := (Below.refl _ _).grown hg1 (Nat.le_refl _) (by simp)
       have hz1 := hb1.size
       have hd1 := h1.grown hg1 (by simp)
       have hd2 := h2.grown hg1 (by simp))
    | (at_builtin
       refine wpList_append8 _ rfl (.tmp 12) (.tmp 13) 31 rfl w.heap.size 5 Tryd.underlying31 info5 _ [] rfl ho1 d1 (.slice A1 n1 c1) l1 rfl hd1 (by simp [E1.out]; omega) hz1 ?_
       intro v2 w2 ho2 hg2
       have hb2 : Below w.heap.size w w2 := hb1.grown hg2 hz1 (fun k hk => (ho1.block k hk).1)
       have hz2 := hb2.size
       have hd3 : Shows w2 d2 (.slice A2 n2 c2) l2 := h2.keep hz2 (fun hp => hb2.block _ (h2.lt hp)))
    | (at_builtin
       refine wpList_append8 _ rfl (.tmp 15) (.tmp 16) 31 rfl w.heap.size 5 Tryd.underlying31 info5 v2 _ rfl ho2 d2 (.slice A2 n2 c2) l2 rfl hd3 (by simp [E1.out, E2.out]; omega) hz2 ?_
       intro v3 w3 ho3 hg3))
  go_ret
  exact ⟨v3, rfl, ho3, hb2.grown hg3 hz2 (fun k hk => (ho2.block k hk).1)⟩

theorem joined_any (v1 v2 : Value) (l1 l2 : List UInt8) (d1 d2 : Nat) (w : World) (h1 : Shows w d1 v1 l1) (h2 : Shows w d2 v2 l2) (hl : l1.length + l2.length ≤ 140737488355328) :
    Calls Tryd.prog 38 #[v1, v2] w fun e w' => ∃ v, e = .returned v ∧ Own 5 w' w.heap.size v (l1 ++ l2) ∧ Below w.heap.size w w' := by
  have k1 := h1
  have k2 := h2
  obtain ⟨A1, c1, rfl, _⟩ := h1
  obtain ⟨A2, c2, rfl, _⟩ := h2
  exact joined_s A1 A2 c1 c2 _ _ l1 l2 d1 d2 w rfl rfl k1 k2 hl

theorem be_wd_length (q : Int) (n : Nat) : (be (wd q) n).length ≤ 8 := by rw [be_length]; exact wd_le q

set_option maxHeartbeats 400000 in
theorem put_any (v : Value) (l : List UInt8) (d n : Nat) (q : Int) (w : World) (h : Shows w d v l) (hl : l.length ≤ 140737488355320) :
    Calls Tryd.prog 27 #[v, .int .u64 n, .int .i64 q] w fun e w' => ∃ v', e = .returned v' ∧ Own 5 w' w.heap.size v' (l ++ be (wd q) n) ∧ Below w.heap.size w w' := by
  have hbl := be_wd_length q n
  go_enter Tryd.func27, Tryd.ntmps27
  go_wp2_with fail
  refine (digits_any n q _).mono ?_
  rintro e w1 ⟨v1, rfl, ho1, hb1⟩
  obtain ⟨g1, hg1, hs1⟩ := ho1.shows
  have hs0 : Shows w1 d v l := h.keep hb1.size fun hp => hb1.block _ (h.lt hp)
  have hz1 := hb1.size
  go_wp2_with fail
  refine (joined_any v v1 l _ d g1 w1 hs0 hs1 (by omega)).mono ?_
  rintro e w2 ⟨v2, rfl, ho2, hb2⟩
  go_wp2_with fail
  go_ret
  exact ⟨v2, rfl, ho2.mono hz1, hb1.trans (hb2.mono hz1)⟩

set_option maxHeartbeats 400000 in
theorem isText1 (q : Int) (w : World) (h : q = 1 ∨ q = 2 ∨ q = 4) : Calls Tryd.prog 48 #[.int .i64 q] w fun e w' => e = .returned (.bool true) ∧ w = w' := by
  rcases h with rfl | rfl | rfl
  all_goals
    go_enter Tryd.func48, Tryd.ntmps48
    go_wp2
    go_ret
    exact ⟨rfl, rfl⟩

set_option maxHeartbeats 400000 in
theorem isText0 (q : Int) (w : World) (h1 : (q == 1) = false) (h2 : (q == 2) = false) (h4 : (q == 4) = false) : Calls Tryd.prog 48 #[.int .i64 q] w fun e w' => e = .returned (.bool false) ∧ w = w' := by
  go_enter Tryd.func48, Tryd.ntmps48
  go_wp2
  go_ret
  exact ⟨rfl, rfl⟩

/-- A text may have this width. -/
def txt (q : Int) : Bool := decide (q = 1 ∨ q = 2 ∨ q = 4)
/-- An integer may have this width. -/
def num (q : Int) : Bool := decide (q = 1 ∨ q = 2 ∨ q = 4 ∨ q = 8)

theorem txt_no {q : Int} (h : txt q = false) : (q == 1) = false ∧ (q == 2) = false ∧ (q == 4) = false := by
  simp [txt] at h; simp [h]
theorem isText_yes (q : Int) (w : World) (h : txt q = true) : Calls Tryd.prog 48 #[.int .i64 q] w fun e w' => e = .returned (.bool true) ∧ w = w' := isText1 q w (by simpa [txt] using h)
theorem isText_no (q : Int) (w : World) (h : txt q = false) : Calls Tryd.prog 48 #[.int .i64 q] w fun e w' => e = .returned (.bool false) ∧ w = w' := isText0 q w (txt_no h).1 (txt_no h).2.1 (txt_no h).2.2

set_option maxHeartbeats 400000 in
theorem isWidth8 (w : World) : Calls Tryd.prog 42 #[.int .i64 8] w fun e w' => e = .returned (.bool true) ∧ w = w' := by
  go_enter Tryd.func42, Tryd.ntmps42
  go_wp2
  go_ret
  exact ⟨rfl, rfl⟩

set_option maxHeartbeats 400000 in
theorem isWidth1 (q : Int) (w : World) (h8 : (q == 8) = false) (h : txt q = true) : Calls Tryd.prog 42 #[.int .i64 q] w fun e w' => e = .returned (.bool true) ∧ w = w' := by
  have H := Lib.hid h
  clear h
  go_enter Tryd.func42, Tryd.ntmps42
  go_wp2_with fail
  refine (isText_yes q _ H.out).mono ?_
  rintro e w' ⟨rfl, rfl⟩
  go_wp2_with fail
  go_ret
  exact ⟨rfl, rfl⟩

set_option maxHeartbeats 400000 in
theorem isWidth0 (q : Int) (w : World) (h8 : (q == 8) = false) (h : txt q = false) : Calls Tryd.prog 42 #[.int .i64 q] w fun e w' => e = .returned (.bool false) ∧ w = w' := by
  have H := Lib.hid h
  clear h
  go_enter Tryd.func42, Tryd.ntmps42
  go_wp2_with fail
  refine (isText_no q _ H.out).mono ?_
  rintro e w' ⟨rfl, rfl⟩
  go_wp2_with fail
  go_ret
  exact ⟨rfl, rfl⟩

theorem isWidth_yes (q : Int) (w : World) (h : num q = true) : Calls Tryd.prog 42 #[.int .i64 q] w fun e w' => e = .returned (.bool true) ∧ w = w' := by
  by_cases h8 : q = 8
  · subst h8; exact isWidth8 w
  · exact isWidth1 q w (by simpa using h8) (by simp [num, h8] at h; simpa [txt] using h)
theorem isWidth_no (q : Int) (w : World) (h : num q = false) : Calls Tryd.prog 42 #[.int .i64 q] w fun e w' => e = .returned (.bool false) ∧ w = w' := by
  simp [num] at h
  exact isWidth0 q w (by simp [h]) (by simp [txt, h])

end Go.Proofs.YtmpcddljgcckcaaDoor
