/-
  The contract of the law's head: the document's fixed answers come out.
-/
import Derived.Test.YtfdbfiaijaeklaaE
namespace Go.Proofs.Ytfdbfiaijaeklaa
open Go.RowKit
set_option linter.unusedVariables false
set_option linter.unusedSimpArgs false

theorem below_of_grown {w w' : World} {g B : Nat} (h : w.grownBy w' (some g)) (hB : B ≤ g) (hs : B ≤ w.heap.size) : Below B w w' :=
  (Below.refl _ _).grown h hs (fun k hk => by cases hk; exact hB)

theorem bad_yes' (g d : Nat) (w : World) (h : RS w g d none) : Calls Try.prog 23 #[.pointer (some ⟨g, 0, none⟩)] w fun e w' => e = .returned (.bool true) ∧ w = w' := by
  obtain ⟨l, hl⟩ := h
  exact bad_yes g d l w hl

set_option maxHeartbeats 400000 in
theorem head_any (w : World) : Calls Try.prog 13 #[] w fun e w' => e = .returned (.bool true) ∧ Below w.heap.size w w' := by
  have q1 : be (wd 2) 258 = [1, 2] := by rfl
  have q2 : be 2 (ByteArray.mk #[97, 98]).size ++ sb ⟨#[97, 98]⟩ = [0, 2, 97, 98] := by rfl
  have Q1 := Lib.hid q1
  have Q2 := Lib.hid q2
  clear q1 q2
  go_enter Try.func13, Try.ntmps13
  go_wp2_with fail
  have h0 : Shows (w.alloc (.cells #[.int .u8 7] 5)) w.heap.size (.slice (some ⟨w.heap.size, 0, none⟩) 1 1) [7] := Shows.lit (w := w) [7] (by simp [bs, u8c]) (by simp [maxLen])
  refine (put_any _ [7] w.heap.size 258 2 _ h0 (by simp)).mono ?_
  rintro e w1 ⟨v1, rfl, ho1, hb1⟩
  have hB1 : Below w.heap.size w w1 := ((Below.refl _ _).alloc (Nat.le_refl _) _).trans (hb1.mono (by simp))
  rw [Q1.out] at ho1
  have hz1 := hB1.size
  go_wp2_with fail
  refine (putText_ok2 _ [] 0 _ _ (Shows.nil_ _ _) (by simp [ByteArray.size]) (by simp [ByteArray.size])).mono ?_
  rintro e w2 ⟨v2, rfl, ho2, hb2⟩
  rw [Q2.out] at ho2
  have hB2 : Below w.heap.size w w2 := hB1.trans (hb2.mono hz1)
  have hz2 := hB2.size
  go_wp2_with fail
  have h3 : Shows (w2.alloc (.cells #[.int .u8 1, .int .u8 2, .int .u8 3] 5)) w2.heap.size (.slice (some ⟨w2.heap.size, 0, none⟩) 3 3) [1, 2, 3] := Shows.lit (w := w2) [1, 2, 3] (by simp [bs, u8c]) (by simp [maxLen])
  refine (open_any _ [1, 2, 3] w2.heap.size _ h3 (by simp)).mono ?_
  rintro e w3 ⟨g, d, rfl, hr3, hg3, hd3, hb3⟩
  have hB3 : Below w2.heap.size w2 w3 := ((Below.refl _ _).alloc (Nat.le_refl _) _).trans (hb3.mono (by simp))
  have hC3 : Below w.heap.size w w3 := hB2.trans (hB3.mono hz2)
  have hz3 := hC3.size
  go_wp2_with fail
  refine (num_any g d _ 2 _ hr3 (by simp [lenS])).mono ?_
  rintro e w4 ⟨rfl, hr4, hg4⟩
  have e4 : numS 2 (some [1, 2, 3]) = (258, some [3]) := by rfl
  rw [e4] at hr4
  simp only [e4]
  clear e4
  go_wp2_with fail
  refine (left_any g d _ true _ hr4).mono ?_
  rintro e w' ⟨rfl, rfl⟩
  go_wp2_with fail
  refine (num_any g d _ 2 _ hr4 (by simp [lenS])).mono ?_
  rintro e w5 ⟨rfl, hr5, hg5⟩
  have e5 : numS 2 (some [3]) = (0, none) := by rfl
  rw [e5] at hr5
  simp only [e5]
  clear e5
  have hgz : w2.heap.size ≤ g := by have := ((Below.refl w2.heap.size w2).alloc (Nat.le_refl _) (.cells #[.int .u8 1, .int .u8 2, .int .u8 3] 5)).size; omega
  have hB5 : Below w2.heap.size w2 w5 := (hB3.trans (below_of_grown hg4 hgz hB3.size)).trans (below_of_grown hg5 hgz (Nat.le_trans hB3.size hg4.size))
  have hC5 : Below w1.heap.size w1 w5 := hb2.trans (hB5.mono hb2.size)
  have hD5 : Below w.heap.size w w5 := hB1.trans (hC5.mono hz1)
  obtain ⟨g1, _, hs1⟩ := ho1.shows
  obtain ⟨g2, _, hs2⟩ := ho2.shows
  have hcv1 := run_conv8 (P := Try.prog) w5 22 5 9 Try.underlying22 Try.underlying5 Try.underlying9 g1 v1 _ (hs1.keep hC5.size (fun hp => hC5.block _ (hs1.lt hp)))
  have hcv2 := run_conv8 (P := Try.prog) w5 22 5 9 Try.underlying22 Try.underlying5 Try.underlying9 g2 v2 _ (hs2.keep hB5.size (fun hp => hB5.block _ (hs2.lt hp)))
  have hst1 := str8_toList [7, 1, 2]
  have hst2 := str8_toList [0, 2, 97, 98]
  go_wp2_with (go_at_call 23; refine (bad_yes' g d _ hr5).mono ?_; rintro e w' ⟨rfl, rfl⟩)
  go_ret
  exact ⟨rfl, hD5⟩

end Go.Proofs.Ytfdbfiaijaeklaa
