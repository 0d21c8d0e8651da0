/-
  The contracts of the document's own reader: it does what the program's does.
-/
import Derived.Test.YtdklhcmoilcpgaaGreatOctAZ
namespace Go.Proofs.YtdklhcmoilcpgaaGreat
open Go.RowKit
set_option linter.unusedVariables false
set_option linter.unusedSimpArgs false
def QS (w : World) (g d : Nat) : Option (List UInt8) → Prop
  | some l => ∃ A c, w.heap[g]? = some (.cells #[.slice A l.length c, .bool false] 85 (0, 0)) ∧ Shows w d (.slice A l.length c) l
  | none => w.heap[g]? = some (.cells #[.slice none 0 0, .bool true] 85 (0, 0))
section
variable {w w' : World} {g d : Nat} {s : Option (List UInt8)}
theorem QS.lt (h : QS w g d s) : g < w.heap.size := by
 cases s with
 | none => exact (Array.getElem?_eq_some_iff.1 h).1
 | some l => obtain ⟨A, c, h1, _⟩ := h; exact (Array.getElem?_eq_some_iff.1 h1).1
theorem QS.keep (h : QS w g d s) (hs : w.heap.size ≤ w'.heap.size) (hg : w'.heap[g]? = w.heap[g]?) (hd : d < w.heap.size → w'.heap[d]? = w.heap[d]?) : QS w' g d s := by
 cases s with
 | none => exact hg.trans h
 | some l => obtain ⟨A, c, h1, h2⟩ := h; exact ⟨A, c, hg.trans h1, h2.keep hs fun hp => hd (h2.lt hp)⟩
theorem QS.ne {l : List UInt8} (h : QS w g d (some l)) (hp : 0 < l.length) : d ≠ g := by
 rintro rfl
 obtain ⟨A, c, h1, A', c', e, h2, h3, h4⟩ := h
 obtain ⟨o, rfl, hd, hc⟩ := h4 hp
 have := hc 0 hp
 rw [cell_of_row w d _ _ 85 (0, 0) h1] at this
 have hl := (Array.getElem?_eq_some_iff.1 this).1
 simp at hl
 rcases (show o = 0 ∨ o = 1 by omega) with rfl | rfl <;> simp [u8c] at this
theorem QS.cells (h : QS w g d s) : ∃ x y, w.heap[g]? = some (.cells #[x, y] 85 (0, 0)) := by
 cases s with
 | none => exact ⟨_, _, h⟩
 | some l => obtain ⟨A, c, h1, _⟩ := h; exact ⟨_, _, h1⟩
end
theorem spoiledQ {w : World} {g d : Nat} (x y : Value) (h : w.heap[g]? = some (.cells #[x, y] 85 (0, 0))) :
  QS ((w.setCell ⟨g, 1, none⟩ (.bool true)).setCell ⟨g, 0, none⟩ (.slice none 0 0)) g d none := by
 have h1 := heap_setCell_same w g 1 _ 85 (.bool true) h
 have h2 := heap_setCell_same _ g 0 _ 85 (.slice none 0 0) h1
 simpa [QS] using h2
theorem grown_set {w : World} {g : Nat} (i : Nat) (u : Value) : w.grownBy (w.setCell ⟨g, i, none⟩ u) (some g) :=
 ⟨rfl, rfl, rfl, by simp [World.setCell], fun k _ hk => Below.heap_setCell _ _ _ _ (fun e => hk (by rw [e]))⟩
set_option maxHeartbeats 400000 in
theorem spoil_any (g d : Nat) (s : Option (List UInt8)) (w : World) (h : QS w g d s) :
  Calls Tryz.prog 85 #[.pointer (some ⟨g, 0, none⟩)] w fun e w' => e = .returned (.tuple #[]) ∧ QS w' g d none ∧ w.grownBy w' (some g) := by
 obtain ⟨x, y, h1⟩ := h.cells
 have hc0 : w.cell? ⟨g, 0, none⟩ = some x := by rw [cell_of_row w g _ _ 85 (0, 0) h1]; rfl
 have hc1 : w.cell? ⟨g, 1, none⟩ = some y := by rw [cell_of_row w g _ _ 85 (0, 0) h1]; rfl
 have hf : ∀ i, w.frozen? ⟨g, i, none⟩ = false := fun i => frozen_of_row w g i _ 85 h1
 have H1 := Lib.hid h1
 clear h1 h
 go_enter Tryz.func85, Tryz.ntmps85
 go_wp2
 go_end0
 exact ⟨rfl, spoiledQ _ _ H1.out, grown_trans' (grown_set 1 _) (grown_set 0 _)⟩
set_option maxHeartbeats 400000 in
theorem qtake_none (g d : Nat) (n : Int) (w : World) (h : QS w g d none) :
  Calls Tryz.prog 41 #[.pointer (some ⟨g, 0, none⟩), .int .i64 n] w fun e w' => e = .returned (.slice none 0 0) ∧ QS w' g d none ∧ w.grownBy w' (some g) := by
 have h1 : w.heap[g]? = some (.cells #[.slice none 0 0, .bool true] 85 (0, 0)) := h
 have hc1 : w.cell? ⟨g, 1, none⟩ = some (.bool true) := by rw [cell_of_row w g _ _ 85 (0, 0) h1]; rfl
 have H := Lib.hid h
 clear h1 h
 go_enter Tryz.func41, Tryz.ntmps41
 go_wp2_with fail
 refine (spoil_any g d _ _ H.out).mono ?_
 rintro e w' ⟨rfl, h1, h2⟩
 go_wp2_with fail
 go_ret
 exact ⟨rfl, h1, h2⟩
set_option maxHeartbeats 400000 in
theorem qtake_neg (g d : Nat) (l : List UInt8) (w : World) (h : QS w g d (some l)) (n : Int) (hn : n < 0) :
  Calls Tryz.prog 41 #[.pointer (some ⟨g, 0, none⟩), .int .i64 n] w fun e w' => e = .returned (.slice none 0 0) ∧ QS w' g d none ∧ w.grownBy w' (some g) := by
 have H := Lib.hid h
 obtain ⟨A, c, h1, h2⟩ := h
 have hc0 : w.cell? ⟨g, 0, none⟩ = some (.slice A l.length c) := by rw [cell_of_row w g _ _ 85 (0, 0) h1]; rfl
 have hc1 : w.cell? ⟨g, 1, none⟩ = some (.bool false) := by rw [cell_of_row w g _ _ 85 (0, 0) h1]; rfl
 have t1 : decide (n < 0) = true := by simpa using hn
 clear h1 h2
 go_enter Tryz.func41, Tryz.ntmps41
 go_wp2_with fail
 refine (spoil_any g d _ _ H.out).mono ?_
 rintro e w' ⟨rfl, h1, h2⟩
 go_wp2_with fail
 go_ret
 exact ⟨rfl, h1, h2⟩
set_option maxHeartbeats 400000 in
theorem qtake_far (g d : Nat) (l : List UInt8) (w : World) (h : QS w g d (some l)) (n : Nat) (hn : l.length < n) :
  Calls Tryz.prog 41 #[.pointer (some ⟨g, 0, none⟩), .int .i64 n] w fun e w' => e = .returned (.slice none 0 0) ∧ QS w' g d none ∧ w.grownBy w' (some g) := by
 have H := Lib.hid h
 obtain ⟨A, c, h1, h2⟩ := h
 have hc0 : w.cell? ⟨g, 0, none⟩ = some (.slice A l.length c) := by rw [cell_of_row w g _ _ 85 (0, 0) h1]; rfl
 have hc1 : w.cell? ⟨g, 1, none⟩ = some (.bool false) := by rw [cell_of_row w g _ _ 85 (0, 0) h1]; rfl
 have t1 : decide ((n : Int) < 0) = false := by simp
 have t2 : decide (l.length < n) = true := by simpa using hn
 clear h1 h2
 go_enter Tryz.func41, Tryz.ntmps41
 go_wp2_with fail
 refine (spoil_any g d _ _ H.out).mono ?_
 rintro e w' ⟨rfl, h1, h2⟩
 go_wp2_with fail
 go_ret
 exact ⟨rfl, h1, h2⟩
theorem movedQ {w w1 : World} {g d c n : Nat} {A : Option Addr} {l : List UInt8} (h : Shows w d (.slice A l.length c) l) (hR : QS w g d (some l)) (hb : Below w.heap.size w w1)
  (h1 : w1.heap[g]? = some (.cells #[.slice A l.length c, .bool false] 85 (0, 0))) (hn : n ≤ l.length) (A'' : Option Addr) (hA : ¬ c = n → A'' = A.map (fun x => x.add n)) (q : Nat) (hq : q = c - n) :
  QS (w1.setCell ⟨g, 0, none⟩ (.slice A'' (l.length - n) q)) g d (some (l.drop n)) := by
 subst hq
 have hd : Shows w1 d (.slice A l.length c) l := h.keep hb.size fun hp => hb.block _ (h.lt hp)
 refine ⟨A'', c - n, ?_, ?_⟩
 ·have h2 := heap_setCell_same w1 g 0 _ 85 (.slice A'' (l.length - n) (c - n)) h1
  rw [List.length_drop]
  simpa using h2
 ·have h3 := hd.tail hn A'' hA
  rw [List.length_drop]
  exact h3.keep (by simp [World.setCell]) fun hp => heap_setCell_other _ _ _ _ (fun e => by
   have := hR.ne (by simp at hp; omega)
   simp at e
   omega)
theorem cutOwnQ {w w1 : World} {g d : Nat} {s : Option (List UInt8)} {m : List UInt8} {v : Value} (ho : Own 5 w1 w.heap.size v m) (hR : QS w g d s) (u : Value) : Own 5 (w1.setCell ⟨g, 0, none⟩ u) w.heap.size v m :=
 ho.keep fun k hk => heap_setCell_other _ _ _ _ (fun e => by
  have := (ho.block k hk).1
  have := hR.lt
  simp at e
  omega)
set_option maxHeartbeats 400000 in
theorem qtake_ok (g d : Nat) (l : List UInt8) (n : Nat) (w : World) (h : QS w g d (some l)) (hn : n ≤ l.length) (hb : l.length ≤ 140737488355328) :
    Calls Tryz.prog 41 #[.pointer (some ⟨g, 0, none⟩), .int .i64 n] w fun e w' => ∃ v, e = .returned v ∧ Own 5 w' w.heap.size v (l.take n) ∧ QS w' g d (some (l.drop n)) ∧ w.grownBy w' (some g) := by
  have hR := h
  obtain ⟨A, c, h1, h2⟩ := h
  have hc0 : w.cell? ⟨g, 0, none⟩ = some (.slice A l.length c) := by rw [cell_of_row w g _ _ 85 (0, 0) h1]; rfl
  have hc1 : w.cell? ⟨g, 1, none⟩ = some (.bool false) := by rw [cell_of_row w g _ _ 85 (0, 0) h1]; rfl
  have hnc : n ≤ c := by obtain ⟨_, _, e, h3, _⟩ := h2; cases e; omega
  have t1 : decide ((n : Int) < 0) = false := by simp
  have t2 : decide (l.length < n) = false := by simpa using hn
  have H1 := Lib.hid h1
  have hx := h2.head hn
  clear h1
  go_enter Tryz.func41, Tryz.ntmps41
  go_wp2_with (at_builtin
               refine wpList_append8 _ rfl (.tmp 25) (.tmp 31) 50 rfl w.heap.size 5 Tryz.underlying50 info5 (.slice none 0 0) [] rfl (Own.nil_ _ _ _) d (.slice A n c) (l.take n) rfl hx (by simp; omega) (Nat.le_refl _) ?_
               intro v1 w1 ho1 hg1
               have hb1 : Below w.heap.size w w1 := (Below.refl _ _).grown hg1 (Nat.le_refl _) (by simp [Value.ownBlock])
               have hk : w1.heap[g]? = some (.cells #[.slice A l.length c, .bool false] 85 (0, 0)) := (hb1.block g hR.lt).trans H1.out
               have hd0 : w1.cell? ⟨g, 0, none⟩ = some (.slice A l.length c) := by rw [cell_of_row w1 g _ _ 85 (0, 0) hk]; rfl
               have hd1 : w1.cell? ⟨g, 1, none⟩ = some (.bool false) := by rw [cell_of_row w1 g _ _ 85 (0, 0) hk]; rfl
               have he : ∀ i, w1.frozen? ⟨g, i, none⟩ = false := fun i => frozen_of_row w1 g i _ 85 hk
               have G1 := Lib.hid hk
               clear hk)
  · have E := Lib.hid h
    clear h
    go_ret
    refine ⟨v1, rfl, ?_, ?_, ?_⟩
    · exact cutOwnQ ho1 hR _
    · exact movedQ h2 hR hb1 G1.out hn A (fun hcn => absurd E.out hcn) 0 (by have := E.out; omega)
    · exact cutFrame hb1 _
  · go_ret
    refine ⟨v1, rfl, ?_, ?_, ?_⟩
    · exact cutOwnQ ho1 hR _
    · exact movedQ h2 hR hb1 G1.out hn _ (fun _ => rfl) _ rfl
    · exact cutFrame hb1 _
theorem qtake_any (g d : Nat) (s : Option (List UInt8)) (n : Int) (w : World) (h : QS w g d s) (hb : lenS s ≤ 140737488355328) :
  Calls Tryz.prog 41 #[.pointer (some ⟨g, 0, none⟩), .int .i64 n] w fun e w' => ∃ v, e = .returned v ∧ Own 5 w' w.heap.size v (takeS n s).1 ∧ QS w' g d (takeS n s).2 ∧ w.grownBy w' (some g) := by
 cases s with
 | none =>
  refine (qtake_none g d n w h).mono ?_
  rintro e w' ⟨rfl, h1, h2⟩
  exact ⟨_, rfl, Own.nil_ _ _ _, h1, h2⟩
 | some l =>
  by_cases h0 : n < 0
  ·refine (qtake_neg g d l w h n h0).mono ?_
   rintro e w' ⟨rfl, h1, h2⟩
   have e1 : takeS n (some l) = ([], none) := by simp only [takeS]; rw [if_neg (by omega)]
   rw [e1]
   exact ⟨_, rfl, Own.nil_ _ _ _, h1, h2⟩
  ·obtain ⟨k, rfl⟩ := Int.eq_ofNat_of_zero_le (show 0 ≤ n by omega)
   by_cases h1 : l.length < k
   ·refine (qtake_far g d l w h k h1).mono ?_
    rintro e w' ⟨rfl, h1, h2⟩
    rw [takeS_far k l (by omega)]
    exact ⟨_, rfl, Own.nil_ _ _ _, h1, h2⟩
   ·refine (qtake_ok g d l k w h (by omega) hb).mono ?_
    rintro e w' ⟨v, rfl, h1, h2, h3⟩
    rw [takeS_ok k l (by omega)]
    exact ⟨_, rfl, h1, h2, h3⟩
theorem width_yes (q : Int) (w : World) (h : num q = true) : Calls Tryz.prog 84 #[.int .i64 q] w fun e w' => e = .returned (.bool true) ∧ w = w' := by
 have h : q = 1 ∨ q = 2 ∨ q = 4 ∨ q = 8 := by simpa [num] using h
 rcases h with rfl | rfl | rfl | rfl
 all_goals
  go_enter Tryz.func84, Tryz.ntmps84
  go_wp2
  go_ret
  exact ⟨rfl, rfl⟩
theorem width_no (q : Int) (w : World) (h : num q = false) : Calls Tryz.prog 84 #[.int .i64 q] w fun e w' => e = .returned (.bool false) ∧ w = w' := by
 simp [num] at h
 have h1 : (q == 1) = false := by simp [h]
 have h2 : (q == 2) = false := by simp [h]
 have h4 : (q == 4) = false := by simp [h]
 have h8 : (q == 8) = false := by simp [h]
 clear h
 go_enter Tryz.func84, Tryz.ntmps84
 go_wp2
 go_ret
 exact ⟨rfl, rfl⟩
set_option maxHeartbeats 400000 in
theorem qnum_w (g d : Nat) (s : Option (List UInt8)) (q : Int) (w : World) (h : QS w g d s) (hb : lenS s ≤ 140737488355328) (hq : num q = true) :
  Calls Tryz.prog 38 #[.pointer (some ⟨g, 0, none⟩), .int .i64 q] w fun e w' => e = .returned (.int .u64 (numOf (takeS q s).1)) ∧ QS w' g d (takeS q s).2 ∧ w.grownBy w' (some g) := by
 have hm8 : (takeS q s).1.length ≤ 8 := by have := takeS_len q s; have := num_le8 hq; omega
 have HQ := Lib.hid hq
 have HB := Lib.hid hb
 clear hq hb
 go_enter Tryz.func38, Tryz.ntmps38
 go_wp2_with fail
 refine (width_yes q _ HQ.out).mono ?_
 rintro e w' ⟨rfl, rfl⟩
 go_wp2_with fail
 refine (qtake_any g d s q _ h HB.out).mono ?_
 rintro e w1 ⟨v1, rfl, ho1, hr1, hg1⟩
 obtain ⟨g1, hge, hs1⟩ := ho1.shows
 obtain ⟨A, c, rfl, hlc, hc, hcell⟩ := hs1
 generalize hm : (takeS q s).1 = m at *
 have HM := Lib.hid hm
 clear hm
 go_wp2_with fail
 go_loop [6, 7] (fun n i => ∃ k : Nat, k ≤ m.length ∧ i = .int .i64 k ∧ n = .int .u64 (numOf (m.take k))) (fun _ i => m.length - (intOf i).toNat)
 case atStart => exact ⟨0, Nat.zero_le _, rfl, rfl⟩
 case round =>
  obtain ⟨k, hk, rfl, rfl⟩ := hrel
  by_cases hlt : k < m.length
  ·obtain ⟨o, rfl, _, hcl⟩ := hcell (by omega)
   have hcc : w1.cell? ⟨g1, o + k, none⟩ = some (.int .u8 (m[k]'hlt).toNat) := hcl k hlt
   have hlo : ((m[k]'hlt).toNat : Int) < 256 := by have := (m[k]'hlt).toNat_lt; omega
   have hx : (numOf (m.take k) : Int) < 72057594037927936 := by have := numOf_take7 m k (by omega); omega
   have HJ : Hid (256 * (numOf (m.take k) : Int) + ((m[k]'hlt).toNat : Int) = ((numOf (m.take (k + 1)) : Nat) : Int)) := by
    show _ = _
    rw [List.take_succ_eq_append_getElem hlt, numOf_snoc]
    rw [Int.natCast_add, Int.natCast_mul, Int.mul_comm]
    rfl
   generalize (m[k]'hlt).toNat = b at *
   generalize numOf (m.take k) = x at *
   clear hcell hcl
   go_wp2
   go_round
   case rel => exact ⟨k + 1, by omega, by go_num, by rw [HJ.out]⟩
   case measure => simp [intOf]; omega
  ·go_wp2
   go_ret
   refine ⟨?_, hr1, hg1⟩
   have : k = m.length := by omega
   subst this
   rw [HM.out, List.take_length]
   rfl
set_option maxHeartbeats 400000 in
theorem qnum_no (g d : Nat) (s : Option (List UInt8)) (q : Int) (w : World) (h : QS w g d s) (hq : num q = false) :
  Calls Tryz.prog 38 #[.pointer (some ⟨g, 0, none⟩), .int .i64 q] w fun e w' => e = .returned (.int .u64 (0 : Nat)) ∧ QS w' g d none ∧ w.grownBy w' (some g) := by
 have HQ := Lib.hid hq
 clear hq
 go_enter Tryz.func38, Tryz.ntmps38
 go_wp2_with fail
 refine (width_no q _ HQ.out).mono ?_
 rintro e w' ⟨rfl, rfl⟩
 go_wp2_with fail
 refine (spoil_any g d _ _ h).mono ?_
 rintro e w' ⟨rfl, h1, h2⟩
 go_wp2_with fail
 go_ret
 exact ⟨rfl, h1, h2⟩
theorem numS_lt (q : Int) (s : Option (List UInt8)) : (numS q s).1 < 18446744073709551616 := by
 have h : (takeS (if num q = true then q else -1) s).1.length ≤ 8 := by
  by_cases hq : num q = true
  ·rw [if_pos hq]; have := takeS_len q s; have := num_le8 hq; omega
  ·rw [if_neg hq]; have := takeS_len (-1) s; omega
 have h3 : 256 ^ (takeS (if num q = true then q else -1) s).1.length ≤ 256 ^ 8 := Nat.pow_le_pow_right (by omega) h
 exact Nat.lt_of_lt_of_le (numOf_lt _) (Nat.le_trans h3 (by decide))
theorem takeS_m1 (s : Option (List UInt8)) : takeS (-1) s = ([], none) := by cases s <;> simp [takeS]
theorem qnum_any (g d : Nat) (s : Option (List UInt8)) (q : Int) (w : World) (h : QS w g d s) (hb : lenS s ≤ 140737488355328) :
  Calls Tryz.prog 38 #[.pointer (some ⟨g, 0, none⟩), .int .i64 q] w fun e w' => e = .returned (.int .u64 (numS q s).1) ∧ QS w' g d (numS q s).2 ∧ w.grownBy w' (some g) := by
 unfold numS
 by_cases hq : num q = true
 ·rw [if_pos hq]; exact qnum_w g d s q w h hb hq
 ·rw [if_neg hq, takeS_m1]
  exact qnum_no g d s q w h (by simpa using hq)
theorem txt_num {q : Int} (h : txt q = true) : num q = true := by simp [txt] at h; simp [num]; omega
set_option maxHeartbeats 400000 in
theorem qtext_no (g d : Nat) (s : Option (List UInt8)) (q most : Int) (w : World) (h : QS w g d s) (hq : txt q = false) :
  Calls Tryz.prog 39 #[.pointer (some ⟨g, 0, none⟩), .int .i64 q, .int .i64 most] w fun e w' => e = .returned (.string (str8 [])) ∧ QS w' g d none ∧ w.grownBy w' (some g) := by
 obtain ⟨e1, e2, e4⟩ := txt_no hq
 have t1 : (q != 1) = true := by simp [bne, e1]
 have t2 : (q != 2) = true := by simp [bne, e2]
 have t4 : (q != 4) = true := by simp [bne, e4]
 clear hq e1 e2 e4
 go_enter Tryz.func39, Tryz.ntmps39
 go_wp2_with fail
 refine (spoil_any g d _ _ h).mono ?_
 rintro e w' ⟨rfl, h1, h2⟩
 go_wp2_with fail
 go_ret
 exact ⟨rfl, h1, h2⟩
set_option maxHeartbeats 400000 in
theorem qtext_spent1 (g d : Nat) (s : Option (List UInt8)) (most : Int) (w : World) (h : QS w g d s) (hb : lenS s ≤ 140737488355328) (m1 : -9223372036854775808 ≤ most) (m2 : most ≤ 9223372036854775807) (n : Nat) (hn : numS 1 s = (n, none))  :
  Calls Tryz.prog 39 #[.pointer (some ⟨g, 0, none⟩), .int .i64 1, .int .i64 most] w fun e w' => e = .returned (.string (str8 [])) ∧ QS w' g d none ∧ w.grownBy w' (some g) := by
 have hb1 : lenS (numS 1 s).2 ≤ 140737488355328 := Nat.le_trans (numS_lenS 1 s) hb
 rw [hn] at hb1
 have HB := Lib.hid hb
 have HN := Lib.hid hn
 have HB1 := Lib.hid hb1
 clear hb hn hb1
 go_enter Tryz.func39, Tryz.ntmps39
 go_wp2_with fail
 refine (qnum_any g d s 1 _ h HB.out).mono ?_
 rintro e w1 ⟨rfl, hr1, hg1⟩
 rw [HN.out] at hr1
 simp only [HN.out]
 have hk : w1.heap[g]? = some (.cells #[.slice none 0 0, .bool true] 85 (0, 0)) := hr1
 have hc1 : w1.cell? ⟨g, 1, none⟩ = some (.bool true) := by rw [cell_of_row w1 g _ _ 85 (0, 0) hk]; rfl
 clear hk
 have HR := Lib.hid hr1
 clear hr1
 go_wp2_with fail
 refine (spoil_any g d _ _ HR.out).mono ?_
 rintro e w2 ⟨rfl, h1, h2⟩
 go_wp2_with fail
 go_ret
 exact ⟨rfl, h1, grown_trans' hg1 h2⟩
set_option maxHeartbeats 400000 in
theorem qtext_spent2 (g d : Nat) (s : Option (List UInt8)) (most : Int) (w : World) (h : QS w g d s) (hb : lenS s ≤ 140737488355328) (m1 : -9223372036854775808 ≤ most) (m2 : most ≤ 9223372036854775807) (n : Nat) (hn : numS 2 s = (n, none))  :
  Calls Tryz.prog 39 #[.pointer (some ⟨g, 0, none⟩), .int .i64 2, .int .i64 most] w fun e w' => e = .returned (.string (str8 [])) ∧ QS w' g d none ∧ w.grownBy w' (some g) := by
 have hb1 : lenS (numS 2 s).2 ≤ 140737488355328 := Nat.le_trans (numS_lenS 2 s) hb
 rw [hn] at hb1
 have HB := Lib.hid hb
 have HN := Lib.hid hn
 have HB1 := Lib.hid hb1
 clear hb hn hb1
 go_enter Tryz.func39, Tryz.ntmps39
 go_wp2_with fail
 refine (qnum_any g d s 2 _ h HB.out).mono ?_
 rintro e w1 ⟨rfl, hr1, hg1⟩
 rw [HN.out] at hr1
 simp only [HN.out]
 have hk : w1.heap[g]? = some (.cells #[.slice none 0 0, .bool true] 85 (0, 0)) := hr1
 have hc1 : w1.cell? ⟨g, 1, none⟩ = some (.bool true) := by rw [cell_of_row w1 g _ _ 85 (0, 0) hk]; rfl
 clear hk
 have HR := Lib.hid hr1
 clear hr1
 go_wp2_with fail
 refine (spoil_any g d _ _ HR.out).mono ?_
 rintro e w2 ⟨rfl, h1, h2⟩
 go_wp2_with fail
 go_ret
 exact ⟨rfl, h1, grown_trans' hg1 h2⟩
set_option maxHeartbeats 400000 in
theorem qtext_spent4 (g d : Nat) (s : Option (List UInt8)) (most : Int) (w : World) (h : QS w g d s) (hb : lenS s ≤ 140737488355328) (m1 : -9223372036854775808 ≤ most) (m2 : most ≤ 9223372036854775807) (n : Nat) (hn : numS 4 s = (n, none))  :
  Calls Tryz.prog 39 #[.pointer (some ⟨g, 0, none⟩), .int .i64 4, .int .i64 most] w fun e w' => e = .returned (.string (str8 [])) ∧ QS w' g d none ∧ w.grownBy w' (some g) := by
 have hb1 : lenS (numS 4 s).2 ≤ 140737488355328 := Nat.le_trans (numS_lenS 4 s) hb
 rw [hn] at hb1
 have HB := Lib.hid hb
 have HN := Lib.hid hn
 have HB1 := Lib.hid hb1
 clear hb hn hb1
 go_enter Tryz.func39, Tryz.ntmps39
 go_wp2_with fail
 refine (qnum_any g d s 4 _ h HB.out).mono ?_
 rintro e w1 ⟨rfl, hr1, hg1⟩
 rw [HN.out] at hr1
 simp only [HN.out]
 have hk : w1.heap[g]? = some (.cells #[.slice none 0 0, .bool true] 85 (0, 0)) := hr1
 have hc1 : w1.cell? ⟨g, 1, none⟩ = some (.bool true) := by rw [cell_of_row w1 g _ _ 85 (0, 0) hk]; rfl
 clear hk
 have HR := Lib.hid hr1
 clear hr1
 go_wp2_with fail
 refine (spoil_any g d _ _ HR.out).mono ?_
 rintro e w2 ⟨rfl, h1, h2⟩
 go_wp2_with fail
 go_ret
 exact ⟨rfl, h1, grown_trans' hg1 h2⟩
set_option maxHeartbeats 400000 in
theorem qtext_neg1 (g d : Nat) (s : Option (List UInt8)) (most : Int) (w : World) (h : QS w g d s) (hb : lenS s ≤ 140737488355328) (m1 : -9223372036854775808 ≤ most) (m2 : most ≤ 9223372036854775807) (n : Nat) (l1 : List UInt8) (hn : numS 1 s = (n, (some l1))) (hs : most < 0) :
  Calls Tryz.prog 39 #[.pointer (some ⟨g, 0, none⟩), .int .i64 1, .int .i64 most] w fun e w' => e = .returned (.string (str8 [])) ∧ QS w' g d none ∧ w.grownBy w' (some g) := by
 have hb1 : lenS (numS 1 s).2 ≤ 140737488355328 := Nat.le_trans (numS_lenS 1 s) hb
 rw [hn] at hb1
 have t1 : decide (most < 0) = true := by simpa using hs
 have HB := Lib.hid hb
 have HN := Lib.hid hn
 have HB1 := Lib.hid hb1
 clear hb hn hb1
 go_enter Tryz.func39, Tryz.ntmps39
 go_wp2_with fail
 refine (qnum_any g d s 1 _ h HB.out).mono ?_
 rintro e w1 ⟨rfl, hr1, hg1⟩
 rw [HN.out] at hr1
 simp only [HN.out]
 obtain ⟨A, c, hk, hsh⟩ := id hr1
 have hc0 : w1.cell? ⟨g, 0, none⟩ = some (.slice A l1.length c) := by rw [cell_of_row w1 g _ _ 85 (0, 0) hk]; rfl
 have hc1 : w1.cell? ⟨g, 1, none⟩ = some (.bool false) := by rw [cell_of_row w1 g _ _ 85 (0, 0) hk]; rfl
 clear hk hsh
 have HR := Lib.hid hr1
 clear hr1
 go_wp2_with fail
 refine (spoil_any g d _ _ HR.out).mono ?_
 rintro e w2 ⟨rfl, h1, h2⟩
 go_wp2_with fail
 go_ret
 exact ⟨rfl, h1, grown_trans' hg1 h2⟩
set_option maxHeartbeats 400000 in
theorem qtext_neg2 (g d : Nat) (s : Option (List UInt8)) (most : Int) (w : World) (h : QS w g d s) (hb : lenS s ≤ 140737488355328) (m1 : -9223372036854775808 ≤ most) (m2 : most ≤ 9223372036854775807) (n : Nat) (l1 : List UInt8) (hn : numS 2 s = (n, (some l1))) (hs : most < 0) :
  Calls Tryz.prog 39 #[.pointer (some ⟨g, 0, none⟩), .int .i64 2, .int .i64 most] w fun e w' => e = .returned (.string (str8 [])) ∧ QS w' g d none ∧ w.grownBy w' (some g) := by
 have hb1 : lenS (numS 2 s).2 ≤ 140737488355328 := Nat.le_trans (numS_lenS 2 s) hb
 rw [hn] at hb1
 have t1 : decide (most < 0) = true := by simpa using hs
 have HB := Lib.hid hb
 have HN := Lib.hid hn
 have HB1 := Lib.hid hb1
 clear hb hn hb1
 go_enter Tryz.func39, Tryz.ntmps39
 go_wp2_with fail
 refine (qnum_any g d s 2 _ h HB.out).mono ?_
 rintro e w1 ⟨rfl, hr1, hg1⟩
 rw [HN.out] at hr1
 simp only [HN.out]
 obtain ⟨A, c, hk, hsh⟩ := id hr1
 have hc0 : w1.cell? ⟨g, 0, none⟩ = some (.slice A l1.length c) := by rw [cell_of_row w1 g _ _ 85 (0, 0) hk]; rfl
 have hc1 : w1.cell? ⟨g, 1, none⟩ = some (.bool false) := by rw [cell_of_row w1 g _ _ 85 (0, 0) hk]; rfl
 clear hk hsh
 have HR := Lib.hid hr1
 clear hr1
 go_wp2_with fail
 refine (spoil_any g d _ _ HR.out).mono ?_
 rintro e w2 ⟨rfl, h1, h2⟩
 go_wp2_with fail
 go_ret
 exact ⟨rfl, h1, grown_trans' hg1 h2⟩
set_option maxHeartbeats 400000 in
theorem qtext_neg4 (g d : Nat) (s : Option (List UInt8)) (most : Int) (w : World) (h : QS w g d s) (hb : lenS s ≤ 140737488355328) (m1 : -9223372036854775808 ≤ most) (m2 : most ≤ 9223372036854775807) (n : Nat) (l1 : List UInt8) (hn : numS 4 s = (n, (some l1))) (hs : most < 0) :
  Calls Tryz.prog 39 #[.pointer (some ⟨g, 0, none⟩), .int .i64 4, .int .i64 most] w fun e w' => e = .returned (.string (str8 [])) ∧ QS w' g d none ∧ w.grownBy w' (some g) := by
 have hb1 : lenS (numS 4 s).2 ≤ 140737488355328 := Nat.le_trans (numS_lenS 4 s) hb
 rw [hn] at hb1
 have t1 : decide (most < 0) = true := by simpa using hs
 have HB := Lib.hid hb
 have HN := Lib.hid hn
 have HB1 := Lib.hid hb1
 clear hb hn hb1
 go_enter Tryz.func39, Tryz.ntmps39
 go_wp2_with fail
 refine (qnum_any g d s 4 _ h HB.out).mono ?_
 rintro e w1 ⟨rfl, hr1, hg1⟩
 rw [HN.out] at hr1
 simp only [HN.out]
 obtain ⟨A, c, hk, hsh⟩ := id hr1
 have hc0 : w1.cell? ⟨g, 0, none⟩ = some (.slice A l1.length c) := by rw [cell_of_row w1 g _ _ 85 (0, 0) hk]; rfl
 have hc1 : w1.cell? ⟨g, 1, none⟩ = some (.bool false) := by rw [cell_of_row w1 g _ _ 85 (0, 0) hk]; rfl
 clear hk hsh
 have HR := Lib.hid hr1
 clear hr1
 go_wp2_with fail
 refine (spoil_any g d _ _ HR.out).mono ?_
 rintro e w2 ⟨rfl, h1, h2⟩
 go_wp2_with fail
 go_ret
 exact ⟨rfl, h1, grown_trans' hg1 h2⟩
set_option maxHeartbeats 400000 in
theorem qtext_far1 (g d : Nat) (s : Option (List UInt8)) (most : Int) (w : World) (h : QS w g d s) (hb : lenS s ≤ 140737488355328) (m1 : -9223372036854775808 ≤ most) (m2 : most ≤ 9223372036854775807) (n : Nat) (l1 : List UInt8) (hn : numS 1 s = (n, (some l1))) (h0 : 0 ≤ most) (hs : most < n) :
  Calls Tryz.prog 39 #[.pointer (some ⟨g, 0, none⟩), .int .i64 1, .int .i64 most] w fun e w' => e = .returned (.string (str8 [])) ∧ QS w' g d none ∧ w.grownBy w' (some g) := by
 have hb1 : lenS (numS 1 s).2 ≤ 140737488355328 := Nat.le_trans (numS_lenS 1 s) hb
 rw [hn] at hb1
 have t1 : decide (most < 0) = false := by simp; omega
 have t2 : decide (most < (n : Int)) = true := by simpa using hs
 have HB := Lib.hid hb
 have HN := Lib.hid hn
 have HB1 := Lib.hid hb1
 clear hb hn hb1
 go_enter Tryz.func39, Tryz.ntmps39
 go_wp2_with fail
 refine (qnum_any g d s 1 _ h HB.out).mono ?_
 rintro e w1 ⟨rfl, hr1, hg1⟩
 rw [HN.out] at hr1
 simp only [HN.out]
 obtain ⟨A, c, hk, hsh⟩ := id hr1
 have hc0 : w1.cell? ⟨g, 0, none⟩ = some (.slice A l1.length c) := by rw [cell_of_row w1 g _ _ 85 (0, 0) hk]; rfl
 have hc1 : w1.cell? ⟨g, 1, none⟩ = some (.bool false) := by rw [cell_of_row w1 g _ _ 85 (0, 0) hk]; rfl
 clear hk hsh
 have HR := Lib.hid hr1
 clear hr1
 go_wp2_with fail
 refine (spoil_any g d _ _ HR.out).mono ?_
 rintro e w2 ⟨rfl, h1, h2⟩
 go_wp2_with fail
 go_ret
 exact ⟨rfl, h1, grown_trans' hg1 h2⟩
set_option maxHeartbeats 400000 in
theorem qtext_far2 (g d : Nat) (s : Option (List UInt8)) (most : Int) (w : World) (h : QS w g d s) (hb : lenS s ≤ 140737488355328) (m1 : -9223372036854775808 ≤ most) (m2 : most ≤ 9223372036854775807) (n : Nat) (l1 : List UInt8) (hn : numS 2 s = (n, (some l1))) (h0 : 0 ≤ most) (hs : most < n) :
  Calls Tryz.prog 39 #[.pointer (some ⟨g, 0, none⟩), .int .i64 2, .int .i64 most] w fun e w' => e = .returned (.string (str8 [])) ∧ QS w' g d none ∧ w.grownBy w' (some g) := by
 have hb1 : lenS (numS 2 s).2 ≤ 140737488355328 := Nat.le_trans (numS_lenS 2 s) hb
 rw [hn] at hb1
 have t1 : decide (most < 0) = false := by simp; omega
 have t2 : decide (most < (n : Int)) = true := by simpa using hs
 have HB := Lib.hid hb
 have HN := Lib.hid hn
 have HB1 := Lib.hid hb1
 clear hb hn hb1
 go_enter Tryz.func39, Tryz.ntmps39
 go_wp2_with fail
 refine (qnum_any g d s 2 _ h HB.out).mono ?_
 rintro e w1 ⟨rfl, hr1, hg1⟩
 rw [HN.out] at hr1
 simp only [HN.out]
 obtain ⟨A, c, hk, hsh⟩ := id hr1
 have hc0 : w1.cell? ⟨g, 0, none⟩ = some (.slice A l1.length c) := by rw [cell_of_row w1 g _ _ 85 (0, 0) hk]; rfl
 have hc1 : w1.cell? ⟨g, 1, none⟩ = some (.bool false) := by rw [cell_of_row w1 g _ _ 85 (0, 0) hk]; rfl
 clear hk hsh
 have HR := Lib.hid hr1
 clear hr1
 go_wp2_with fail
 refine (spoil_any g d _ _ HR.out).mono ?_
 rintro e w2 ⟨rfl, h1, h2⟩
 go_wp2_with fail
 go_ret
 exact ⟨rfl, h1, grown_trans' hg1 h2⟩
set_option maxHeartbeats 400000 in
theorem qtext_far4 (g d : Nat) (s : Option (List UInt8)) (most : Int) (w : World) (h : QS w g d s) (hb : lenS s ≤ 140737488355328) (m1 : -9223372036854775808 ≤ most) (m2 : most ≤ 9223372036854775807) (n : Nat) (l1 : List UInt8) (hn : numS 4 s = (n, (some l1))) (h0 : 0 ≤ most) (hs : most < n) :
  Calls Tryz.prog 39 #[.pointer (some ⟨g, 0, none⟩), .int .i64 4, .int .i64 most] w fun e w' => e = .returned (.string (str8 [])) ∧ QS w' g d none ∧ w.grownBy w' (some g) := by
 have hb1 : lenS (numS 4 s).2 ≤ 140737488355328 := Nat.le_trans (numS_lenS 4 s) hb
 rw [hn] at hb1
 have t1 : decide (most < 0) = false := by simp; omega
 have t2 : decide (most < (n : Int)) = true := by simpa using hs
 have HB := Lib.hid hb
 have HN := Lib.hid hn
 have HB1 := Lib.hid hb1
 clear hb hn hb1
 go_enter Tryz.func39, Tryz.ntmps39
 go_wp2_with fail
 refine (qnum_any g d s 4 _ h HB.out).mono ?_
 rintro e w1 ⟨rfl, hr1, hg1⟩
 rw [HN.out] at hr1
 simp only [HN.out]
 obtain ⟨A, c, hk, hsh⟩ := id hr1
 have hc0 : w1.cell? ⟨g, 0, none⟩ = some (.slice A l1.length c) := by rw [cell_of_row w1 g _ _ 85 (0, 0) hk]; rfl
 have hc1 : w1.cell? ⟨g, 1, none⟩ = some (.bool false) := by rw [cell_of_row w1 g _ _ 85 (0, 0) hk]; rfl
 clear hk hsh
 have HR := Lib.hid hr1
 clear hr1
 go_wp2_with fail
 refine (spoil_any g d _ _ HR.out).mono ?_
 rintro e w2 ⟨rfl, h1, h2⟩
 go_wp2_with fail
 go_ret
 exact ⟨rfl, h1, grown_trans' hg1 h2⟩
set_option maxHeartbeats 400000 in
theorem qtext_short1 (g d : Nat) (s : Option (List UInt8)) (most : Int) (w : World) (h : QS w g d s) (hb : lenS s ≤ 140737488355328) (m1 : -9223372036854775808 ≤ most) (m2 : most ≤ 9223372036854775807) (n : Nat) (l1 : List UInt8) (hn : numS 1 s = (n, (some l1))) (h0 : 0 ≤ most) (hs : (n : Int) ≤ most) (hl : l1.length < n) :
  Calls Tryz.prog 39 #[.pointer (some ⟨g, 0, none⟩), .int .i64 1, .int .i64 most] w fun e w' => e = .returned (.string (str8 [])) ∧ QS w' g d none ∧ w.grownBy w' (some g) := by
 have hb1 : lenS (numS 1 s).2 ≤ 140737488355328 := Nat.le_trans (numS_lenS 1 s) hb
 rw [hn] at hb1
 have hl9 : l1.length ≤ 140737488355328 := hb1
 have t1 : decide (most < 0) = false := by simp; omega
 have t2 : decide (most < (n : Int)) = false := by simp; omega
 have t3 : decide (l1.length < n) = true := by simpa using hl
 have hn3 : (n : Int) ≤ 9223372036854775807 := by omega
 have HB := Lib.hid hb
 have HN := Lib.hid hn
 have HB1 := Lib.hid hb1
 clear hb hn hb1
 go_enter Tryz.func39, Tryz.ntmps39
 go_wp2_with fail
 refine (qnum_any g d s 1 _ h HB.out).mono ?_
 rintro e w1 ⟨rfl, hr1, hg1⟩
 rw [HN.out] at hr1
 simp only [HN.out]
 obtain ⟨A, c, hk, hsh⟩ := id hr1
 have hc0 : w1.cell? ⟨g, 0, none⟩ = some (.slice A l1.length c) := by rw [cell_of_row w1 g _ _ 85 (0, 0) hk]; rfl
 have hc1 : w1.cell? ⟨g, 1, none⟩ = some (.bool false) := by rw [cell_of_row w1 g _ _ 85 (0, 0) hk]; rfl
 clear hk hsh
 have HR := Lib.hid hr1
 clear hr1
 go_wp2_with fail
 refine (spoil_any g d _ _ HR.out).mono ?_
 rintro e w2 ⟨rfl, h1, h2⟩
 go_wp2_with fail
 go_ret
 exact ⟨rfl, h1, grown_trans' hg1 h2⟩
set_option maxHeartbeats 400000 in
theorem qtext_short2 (g d : Nat) (s : Option (List UInt8)) (most : Int) (w : World) (h : QS w g d s) (hb : lenS s ≤ 140737488355328) (m1 : -9223372036854775808 ≤ most) (m2 : most ≤ 9223372036854775807) (n : Nat) (l1 : List UInt8) (hn : numS 2 s = (n, (some l1))) (h0 : 0 ≤ most) (hs : (n : Int) ≤ most) (hl : l1.length < n) :
  Calls Tryz.prog 39 #[.pointer (some ⟨g, 0, none⟩), .int .i64 2, .int .i64 most] w fun e w' => e = .returned (.string (str8 [])) ∧ QS w' g d none ∧ w.grownBy w' (some g) := by
 have hb1 : lenS (numS 2 s).2 ≤ 140737488355328 := Nat.le_trans (numS_lenS 2 s) hb
 rw [hn] at hb1
 have hl9 : l1.length ≤ 140737488355328 := hb1
 have t1 : decide (most < 0) = false := by simp; omega
 have t2 : decide (most < (n : Int)) = false := by simp; omega
 have t3 : decide (l1.length < n) = true := by simpa using hl
 have hn3 : (n : Int) ≤ 9223372036854775807 := by omega
 have HB := Lib.hid hb
 have HN := Lib.hid hn
 have HB1 := Lib.hid hb1
 clear hb hn hb1
 go_enter Tryz.func39, Tryz.ntmps39
 go_wp2_with fail
 refine (qnum_any g d s 2 _ h HB.out).mono ?_
 rintro e w1 ⟨rfl, hr1, hg1⟩
 rw [HN.out] at hr1
 simp only [HN.out]
 obtain ⟨A, c, hk, hsh⟩ := id hr1
 have hc0 : w1.cell? ⟨g, 0, none⟩ = some (.slice A l1.length c) := by rw [cell_of_row w1 g _ _ 85 (0, 0) hk]; rfl
 have hc1 : w1.cell? ⟨g, 1, none⟩ = some (.bool false) := by rw [cell_of_row w1 g _ _ 85 (0, 0) hk]; rfl
 clear hk hsh
 have HR := Lib.hid hr1
 clear hr1
 go_wp2_with fail
 refine (spoil_any g d _ _ HR.out).mono ?_
 rintro e w2 ⟨rfl, h1, h2⟩
 go_wp2_with fail
 go_ret
 exact ⟨rfl, h1, grown_trans' hg1 h2⟩
set_option maxHeartbeats 400000 in
theorem qtext_short4 (g d : Nat) (s : Option (List UInt8)) (most : Int) (w : World) (h : QS w g d s) (hb : lenS s ≤ 140737488355328) (m1 : -9223372036854775808 ≤ most) (m2 : most ≤ 9223372036854775807) (n : Nat) (l1 : List UInt8) (hn : numS 4 s = (n, (some l1))) (h0 : 0 ≤ most) (hs : (n : Int) ≤ most) (hl : l1.length < n) :
  Calls Tryz.prog 39 #[.pointer (some ⟨g, 0, none⟩), .int .i64 4, .int .i64 most] w fun e w' => e = .returned (.string (str8 [])) ∧ QS w' g d none ∧ w.grownBy w' (some g) := by
 have hb1 : lenS (numS 4 s).2 ≤ 140737488355328 := Nat.le_trans (numS_lenS 4 s) hb
 rw [hn] at hb1
 have hl9 : l1.length ≤ 140737488355328 := hb1
 have t1 : decide (most < 0) = false := by simp; omega
 have t2 : decide (most < (n : Int)) = false := by simp; omega
 have t3 : decide (l1.length < n) = true := by simpa using hl
 have hn3 : (n : Int) ≤ 9223372036854775807 := by omega
 have HB := Lib.hid hb
 have HN := Lib.hid hn
 have HB1 := Lib.hid hb1
 clear hb hn hb1
 go_enter Tryz.func39, Tryz.ntmps39
 go_wp2_with fail
 refine (qnum_any g d s 4 _ h HB.out).mono ?_
 rintro e w1 ⟨rfl, hr1, hg1⟩
 rw [HN.out] at hr1
 simp only [HN.out]
 obtain ⟨A, c, hk, hsh⟩ := id hr1
 have hc0 : w1.cell? ⟨g, 0, none⟩ = some (.slice A l1.length c) := by rw [cell_of_row w1 g _ _ 85 (0, 0) hk]; rfl
 have hc1 : w1.cell? ⟨g, 1, none⟩ = some (.bool false) := by rw [cell_of_row w1 g _ _ 85 (0, 0) hk]; rfl
 clear hk hsh
 have HR := Lib.hid hr1
 clear hr1
 go_wp2_with fail
 refine (spoil_any g d _ _ HR.out).mono ?_
 rintro e w2 ⟨rfl, h1, h2⟩
 go_wp2_with fail
 go_ret
 exact ⟨rfl, h1, grown_trans' hg1 h2⟩
set_option maxHeartbeats 400000 in
theorem qtext_ok1 (g d : Nat) (s : Option (List UInt8)) (most : Int) (w : World) (h : QS w g d s) (hb : lenS s ≤ 140737488355328) (m1 : -9223372036854775808 ≤ most) (m2 : most ≤ 9223372036854775807) (n : Nat) (l1 : List UInt8) (hn : numS 1 s = (n, (some l1))) (h0 : 0 ≤ most) (hs : (n : Int) ≤ most) (hl : n ≤ l1.length) :
  Calls Tryz.prog 39 #[.pointer (some ⟨g, 0, none⟩), .int .i64 1, .int .i64 most] w fun e w' => e = .returned (.string (str8 (l1.take n))) ∧ QS w' g d (some (l1.drop n)) ∧ w.grownBy w' (some g) := by
 have hb1 : lenS (numS 1 s).2 ≤ 140737488355328 := Nat.le_trans (numS_lenS 1 s) hb
 rw [hn] at hb1
 have hl9 : l1.length ≤ 140737488355328 := hb1
 have t1 : decide (most < 0) = false := by simp; omega
 have t2 : decide (most < (n : Int)) = false := by simp; omega
 have t3 : decide (l1.length < n) = false := by simpa using hl
 have hn3 : (n : Int) ≤ 9223372036854775807 := by omega
 have HB := Lib.hid hb
 have HN := Lib.hid hn
 have HB1 := Lib.hid hb1
 clear hb hn hb1
 go_enter Tryz.func39, Tryz.ntmps39
 go_wp2_with fail
 refine (qnum_any g d s 1 _ h HB.out).mono ?_
 rintro e w1 ⟨rfl, hr1, hg1⟩
 rw [HN.out] at hr1
 simp only [HN.out]
 obtain ⟨A, c, hk, hsh⟩ := id hr1
 have hc0 : w1.cell? ⟨g, 0, none⟩ = some (.slice A l1.length c) := by rw [cell_of_row w1 g _ _ 85 (0, 0) hk]; rfl
 have hc1 : w1.cell? ⟨g, 1, none⟩ = some (.bool false) := by rw [cell_of_row w1 g _ _ 85 (0, 0) hk]; rfl
 clear hk hsh
 have HR := Lib.hid hr1
 clear hr1
 go_wp2_with fail
 refine (qtake_ok g d l1 n _ HR.out hl HB1.out).mono ?_
 rintro e w2 ⟨v2, rfl, ho2, hr2, hg2⟩
 obtain ⟨g2, _, hs2⟩ := ho2.shows
 have hcv := run_conv8 (P := Tryz.prog) w2 50 5 9 Tryz.underlying50 Tryz.underlying5 Tryz.underlying9 g2 v2 _ hs2
 go_wp2_with fail
 go_ret
 exact ⟨rfl, hr2, grown_trans' hg1 hg2⟩
set_option maxHeartbeats 400000 in
theorem qtext_ok2 (g d : Nat) (s : Option (List UInt8)) (most : Int) (w : World) (h : QS w g d s) (hb : lenS s ≤ 140737488355328) (m1 : -9223372036854775808 ≤ most) (m2 : most ≤ 9223372036854775807) (n : Nat) (l1 : List UInt8) (hn : numS 2 s = (n, (some l1))) (h0 : 0 ≤ most) (hs : (n : Int) ≤ most) (hl : n ≤ l1.length) :
  Calls Tryz.prog 39 #[.pointer (some ⟨g, 0, none⟩), .int .i64 2, .int .i64 most] w fun e w' => e = .returned (.string (str8 (l1.take n))) ∧ QS w' g d (some (l1.drop n)) ∧ w.grownBy w' (some g) := by
 have hb1 : lenS (numS 2 s).2 ≤ 140737488355328 := Nat.le_trans (numS_lenS 2 s) hb
 rw [hn] at hb1
 have hl9 : l1.length ≤ 140737488355328 := hb1
 have t1 : decide (most < 0) = false := by simp; omega
 have t2 : decide (most < (n : Int)) = false := by simp; omega
 have t3 : decide (l1.length < n) = false := by simpa using hl
 have hn3 : (n : Int) ≤ 9223372036854775807 := by omega
 have HB := Lib.hid hb
 have HN := Lib.hid hn
 have HB1 := Lib.hid hb1
 clear hb hn hb1
 go_enter Tryz.func39, Tryz.ntmps39
 go_wp2_with fail
 refine (qnum_any g d s 2 _ h HB.out).mono ?_
 rintro e w1 ⟨rfl, hr1, hg1⟩
 rw [HN.out] at hr1
 simp only [HN.out]
 obtain ⟨A, c, hk, hsh⟩ := id hr1
 have hc0 : w1.cell? ⟨g, 0, none⟩ = some (.slice A l1.length c) := by rw [cell_of_row w1 g _ _ 85 (0, 0) hk]; rfl
 have hc1 : w1.cell? ⟨g, 1, none⟩ = some (.bool false) := by rw [cell_of_row w1 g _ _ 85 (0, 0) hk]; rfl
 clear hk hsh
 have HR := Lib.hid hr1
 clear hr1
 go_wp2_with fail
 refine (qtake_ok g d l1 n _ HR.out hl HB1.out).mono ?_
 rintro e w2 ⟨v2, rfl, ho2, hr2, hg2⟩
 obtain ⟨g2, _, hs2⟩ := ho2.shows
 have hcv := run_conv8 (P := Tryz.prog) w2 50 5 9 Tryz.underlying50 Tryz.underlying5 Tryz.underlying9 g2 v2 _ hs2
 go_wp2_with fail
 go_ret
 exact ⟨rfl, hr2, grown_trans' hg1 hg2⟩
set_option maxHeartbeats 400000 in
theorem qtext_ok4 (g d : Nat) (s : Option (List UInt8)) (most : Int) (w : World) (h : QS w g d s) (hb : lenS s ≤ 140737488355328) (m1 : -9223372036854775808 ≤ most) (m2 : most ≤ 9223372036854775807) (n : Nat) (l1 : List UInt8) (hn : numS 4 s = (n, (some l1))) (h0 : 0 ≤ most) (hs : (n : Int) ≤ most) (hl : n ≤ l1.length) :
  Calls Tryz.prog 39 #[.pointer (some ⟨g, 0, none⟩), .int .i64 4, .int .i64 most] w fun e w' => e = .returned (.string (str8 (l1.take n))) ∧ QS w' g d (some (l1.drop n)) ∧ w.grownBy w' (some g) := by
 have hb1 : lenS (numS 4 s).2 ≤ 140737488355328 := Nat.le_trans (numS_lenS 4 s) hb
 rw [hn] at hb1
 have hl9 : l1.length ≤ 140737488355328 := hb1
 have t1 : decide (most < 0) = false := by simp; omega
 have t2 : decide (most < (n : Int)) = false := by simp; omega
 have t3 : decide (l1.length < n) = false := by simpa using hl
 have hn3 : (n : Int) ≤ 9223372036854775807 := by omega
 have HB := Lib.hid hb
 have HN := Lib.hid hn
 have HB1 := Lib.hid hb1
 clear hb hn hb1
 go_enter Tryz.func39, Tryz.ntmps39
 go_wp2_with fail
 refine (qnum_any g d s 4 _ h HB.out).mono ?_
 rintro e w1 ⟨rfl, hr1, hg1⟩
 rw [HN.out] at hr1
 simp only [HN.out]
 obtain ⟨A, c, hk, hsh⟩ := id hr1
 have hc0 : w1.cell? ⟨g, 0, none⟩ = some (.slice A l1.length c) := by rw [cell_of_row w1 g _ _ 85 (0, 0) hk]; rfl
 have hc1 : w1.cell? ⟨g, 1, none⟩ = some (.bool false) := by rw [cell_of_row w1 g _ _ 85 (0, 0) hk]; rfl
 clear hk hsh
 have HR := Lib.hid hr1
 clear hr1
 go_wp2_with fail
 refine (qtake_ok g d l1 n _ HR.out hl HB1.out).mono ?_
 rintro e w2 ⟨v2, rfl, ho2, hr2, hg2⟩
 obtain ⟨g2, _, hs2⟩ := ho2.shows
 have hcv := run_conv8 (P := Tryz.prog) w2 50 5 9 Tryz.underlying50 Tryz.underlying5 Tryz.underlying9 g2 v2 _ hs2
 go_wp2_with fail
 go_ret
 exact ⟨rfl, hr2, grown_trans' hg1 hg2⟩
theorem qtext_any (g d : Nat) (s : Option (List UInt8)) (q most : Int) (w : World) (h : QS w g d s) (hb : lenS s ≤ 140737488355328) (m1 : -9223372036854775808 ≤ most) (m2 : most ≤ 9223372036854775807) :
  Calls Tryz.prog 39 #[.pointer (some ⟨g, 0, none⟩), .int .i64 q, .int .i64 most] w fun e w' => e = .returned (.string (str8 (textS q most s).1)) ∧ QS w' g d (textS q most s).2 ∧ w.grownBy w' (some g) := by
 unfold textS
 by_cases hq : txt q = true
 ·rw [if_pos hq]
  have hq3 : q = 1 ∨ q = 2 ∨ q = 4 := by simpa [txt] using hq
  generalize hn : numS q s = p
  obtain ⟨n, s1⟩ := p
  have hlt : n < 18446744073709551616 := by have := numS_lt q s; rw [hn] at this; exact this
  unfold textT
  cases s1 with
  | none =>
   have e : (if most < 0 ∨ most < ((n, (none : Option (List UInt8))).1 : Int) then (([] : List UInt8), (takeS (-1) (n, (none : Option (List UInt8))).2).2) else takeS ((n, (none : Option (List UInt8))).1 : Nat) (n, (none : Option (List UInt8))).2) = ([], none) := by
    split
    ·rw [takeS_m1]
    ·rfl
   rw [e]
   rcases hq3 with rfl | rfl | rfl
   ·exact qtext_spent1 g d s most w h hb m1 m2 n hn
   ·exact qtext_spent2 g d s most w h hb m1 m2 n hn
   ·exact qtext_spent4 g d s most w h hb m1 m2 n hn
  | some l1 =>
   by_cases h0 : most < 0
   ·rw [if_pos (.inl h0), takeS_m1]
    rcases hq3 with rfl | rfl | rfl
    ·exact qtext_neg1 g d s most w h hb m1 m2 n l1 hn h0
    ·exact qtext_neg2 g d s most w h hb m1 m2 n l1 hn h0
    ·exact qtext_neg4 g d s most w h hb m1 m2 n l1 hn h0
   ·by_cases h1 : most < (n : Int)
    ·rw [if_pos (.inr h1), takeS_m1]
     rcases hq3 with rfl | rfl | rfl
     ·exact qtext_far1 g d s most w h hb m1 m2 n l1 hn (by omega) h1
     ·exact qtext_far2 g d s most w h hb m1 m2 n l1 hn (by omega) h1
     ·exact qtext_far4 g d s most w h hb m1 m2 n l1 hn (by omega) h1
    ·rw [if_neg (by simp; omega)]
     by_cases h2 : l1.length < n
     ·rw [takeS_far n l1 h2]
      rcases hq3 with rfl | rfl | rfl
      ·exact qtext_short1 g d s most w h hb m1 m2 n l1 hn (by omega) (by omega) h2
      ·exact qtext_short2 g d s most w h hb m1 m2 n l1 hn (by omega) (by omega) h2
      ·exact qtext_short4 g d s most w h hb m1 m2 n l1 hn (by omega) (by omega) h2
     ·rw [takeS_ok n l1 (by omega)]
      rcases hq3 with rfl | rfl | rfl
      ·exact qtext_ok1 g d s most w h hb m1 m2 n l1 hn (by omega) (by omega) (by omega)
      ·exact qtext_ok2 g d s most w h hb m1 m2 n l1 hn (by omega) (by omega) (by omega)
      ·exact qtext_ok4 g d s most w h hb m1 m2 n l1 hn (by omega) (by omega) (by omega)
 ·rw [if_neg hq]
  have e : textT most (numS (-1) s) = ([], none) := by
   have e1 : numS (-1) s = (0, none) := by
    have : num (-1) = false := by decide
    simp only [numS, this]
    rw [if_neg (by simp), takeS_m1]
    rfl
   rw [e1]
   unfold textT
   split
   ·rw [takeS_m1]
   ·rfl
  rw [e]
  exact qtext_no g d s q most w h (by simpa using hq)
set_option maxHeartbeats 400000 in
theorem qopen_any (v : Value) (l : List UInt8) (d : Nat) (w : World) (h : Shows w d v l) (hl : l.length ≤ 140737488355328) :
    Calls Tryz.prog 37 #[v] w fun e w' => ∃ g d', e = .returned (.pointer (some ⟨g, 0, none⟩)) ∧ QS w' g d' (some l) ∧ w.heap.size ≤ g ∧ (w.heap.size ≤ d' ∧ d' ≤ g) ∧ Below w.heap.size w w' := by
  go_enter Tryz.func37, Tryz.ntmps37
  go_wp2_with (at_builtin
               refine wpList_append8 _ rfl (.tmp 4) (.tmp 5) 50 rfl w.heap.size 5 Tryz.underlying50 info5 (.slice none 0 0) [] rfl (Own.nil_ _ _ _) d v l rfl h (by simpa using hl) (Nat.le_refl _) ?_
               intro v1 w1 ho1 hg1
               rw [List.nil_append] at ho1
               have hb1 : Below w.heap.size w w1 := (Below.refl _ _).grown hg1 (Nat.le_refl _) (by simp [Value.ownBlock])
               obtain ⟨g1, hge, hgl, hs1⟩ := ho1.shows' hb1.size
               have hs := hs1
               obtain ⟨A, c, rfl, _⟩ := hs1)
  go_ret
  exact ⟨w1.heap.size, g1, rfl, ⟨A, c, heap_alloc_new w1 _, hs.keep (by simp) (fun hp => Below.heap_alloc w1 _ _ (hs.lt hp))⟩, hb1.size, ⟨hge, hgl⟩, hb1.alloc hb1.size _⟩
end Go.Proofs.YtdklhcmoilcpgaaGreat
