/-
  The contracts of the reader's Take, Num, Text and Open.
-/
import Derived.Test.YtmpcddljgcckcaaDoorOctC
import Derived.Laws.BitsAllLaws
namespace Go.Proofs.YtmpcddljgcckcaaDoor
open Go.RowKit
set_option linter.unusedVariables false
set_option linter.unusedSimpArgs false

/-- Block g is a reader, of which is left what s tells; none: it is bad. -/
def RS (w : World) (g d : Nat) : Option (List UInt8) → Prop
  | some l => Rdr w g d l true
  | none => ∃ l, Rdr w g d l false

/-- What Take does. -/
def takeS (n : Int) : Option (List UInt8) → List UInt8 × Option (List UInt8)
  | none => ([], none)
  | some l => if 0 ≤ n ∧ n ≤ l.length then (l.take n.toNat, some (l.drop n.toNat)) else ([], none)

def lenS : Option (List UInt8) → Nat
  | some l => l.length
  | none => 0

section
variable {w w' : World} {g d : Nat} {s : Option (List UInt8)}
theorem RS.lt (h : RS w g d s) : g < w.heap.size := by
  cases s with
  | none => obtain ⟨l, hl⟩ := h; exact hl.lt
  | some l => exact Rdr.lt h
theorem RS.keep (h : RS w g d s) (hs : w.heap.size ≤ w'.heap.size) (hg : w'.heap[g]? = w.heap[g]?) (hd : d < w.heap.size → w'.heap[d]? = w.heap[d]?) : RS w' g d s := by
  cases s with
  | none => obtain ⟨l, hl⟩ := h; exact ⟨l, hl.keep hs hg fun hp => hd (hl.dlt hp)⟩
  | some l => exact Rdr.keep h hs hg fun hp => hd (Rdr.dlt h hp)
end

theorem grown_refl (w : World) (r : Option Nat) : w.grownBy w r := ⟨rfl, rfl, rfl, Nat.le_refl _, fun _ _ _ => rfl⟩

set_option maxHeartbeats 400000 in
theorem take_nil (n : Int) (w : World) : Calls Tryd.prog 43 #[.pointer none, .int .i64 n] w fun e w' => e = .returned (.slice none 0 0) ∧ w = w' := by
  go_enter Tryd.func43, Tryd.ntmps43
  go_wp2_with fail
  refine (bad_nil _).mono ?_
  rintro e w' ⟨rfl, rfl⟩
  go_wp2_with fail
  go_ret
  exact ⟨rfl, rfl⟩

set_option maxHeartbeats 400000 in
theorem take_bad (g d : Nat) (l : List UInt8) (n : Int) (w : World) (h : Rdr w g d l false) : Calls Tryd.prog 43 #[.pointer (some ⟨g, 0, none⟩), .int .i64 n] w fun e w' => e = .returned (.slice none 0 0) ∧ w = w' := by
  go_enter Tryd.func43, Tryd.ntmps43
  go_wp2_with fail
  refine (bad_yes g d l _ h).mono ?_
  rintro e w' ⟨rfl, rfl⟩
  go_wp2_with fail
  go_ret
  exact ⟨rfl, rfl⟩

set_option maxHeartbeats 400000 in
theorem take_good (g d : Nat) (l : List UInt8) (n : Int) (w : World) (h : Rdr w g d l true) (R : Ending → World → Prop)
    (hR : Calls Tryd.prog 50 #[.pointer (some ⟨g, 0, none⟩), .int .i64 n] w fun e w' => ∃ v, e = .returned v ∧ R e w') : Calls Tryd.prog 43 #[.pointer (some ⟨g, 0, none⟩), .int .i64 n] w R := by
  have H := Lib.hid hR
  clear hR
  go_enter Tryd.func43, Tryd.ntmps43
  go_wp2_with fail
  refine (bad_no g d l _ h).mono ?_
  rintro e w' ⟨rfl, rfl⟩
  go_wp2_with fail
  refine H.out.mono ?_
  rintro e w' ⟨v, rfl, hv⟩
  go_wp2_with fail
  exact hv

theorem take_any (g d : Nat) (s : Option (List UInt8)) (n : Int) (w : World) (h : RS w g d s) (hb : lenS s ≤ 140737488355328) :
    Calls Tryd.prog 43 #[.pointer (some ⟨g, 0, none⟩), .int .i64 n] w fun e w' => ∃ v, e = .returned v ∧ Own 5 w' w.heap.size v (takeS n s).1 ∧ RS w' g d (takeS n s).2 ∧ w.grownBy w' (some g) := by
  cases s with
  | none =>
    obtain ⟨l, hl⟩ := h
    refine (take_bad g d l n w hl).mono ?_
    rintro e w' ⟨rfl, rfl⟩
    exact ⟨_, rfl, Own.nil_ _ _ _, ⟨l, hl⟩, grown_refl _ _⟩
  | some l =>
    refine take_good g d l n w h _ ?_
    by_cases h0 : n < 0
    · refine (cut_neg g d l true n w h h0).mono ?_
      rintro e w' ⟨rfl, h1, h2⟩
      have e1 : takeS n (some l) = ([], none) := by simp only [takeS]; rw [if_neg (by omega)]
      rw [e1]
      exact ⟨_, rfl, _, rfl, Own.nil_ _ _ _, ⟨[], h1⟩, h2⟩
    · obtain ⟨k, rfl⟩ := Int.eq_ofNat_of_zero_le (show 0 ≤ n by omega)
      by_cases h1 : l.length < k
      · refine (cut_far g d l true k w h h1).mono ?_
        rintro e w' ⟨rfl, h1, h2⟩
        have e1 : takeS (k : Int) (some l) = ([], none) := by simp only [takeS]; rw [if_neg (by omega)]
        rw [e1]
        exact ⟨_, rfl, _, rfl, Own.nil_ _ _ _, ⟨[], h1⟩, h2⟩
      · refine (cut_ok g d l true k w h (by omega) hb).mono ?_
        rintro e w' ⟨v, rfl, h1, h2, h3⟩
        have e1 : takeS (k : Int) (some l) = (l.take k, some (l.drop k)) := by simp only [takeS]; rw [if_pos (by omega)]; simp
        rw [e1]
        exact ⟨_, rfl, _, rfl, h1, h2, h3⟩

/-- The number that bytes are, the highest first. -/
def numOf (l : List UInt8) : Nat := l.foldl (fun n b => n * 256 + b.toNat) 0

/-- What Num does. -/
def numS (q : Int) (s : Option (List UInt8)) : Nat × Option (List UInt8) := (numOf (takeS (if num q = true then q else -1) s).1, (takeS (if num q = true then q else -1) s).2)

theorem foldl_num : ∀ (l : List UInt8) (a : Nat), l.foldl (fun n b => n * 256 + b.toNat) a < (a + 1) * 256 ^ l.length
  | [], a => by simp
  | b :: l, a => by
    rw [List.foldl_cons, List.length_cons, Nat.pow_succ]
    have h := foldl_num l (a * 256 + b.toNat)
    have hb := b.toNat_lt
    have h2 : (a * 256 + b.toNat + 1) ≤ (a + 1) * 256 := by omega
    calc _ < (a * 256 + b.toNat + 1) * 256 ^ l.length := h
      _ ≤ ((a + 1) * 256) * 256 ^ l.length := Nat.mul_le_mul_right _ h2
      _ = (a + 1) * (256 ^ l.length * 256) := by rw [Nat.mul_assoc, Nat.mul_comm 256]

theorem numOf_lt (l : List UInt8) : numOf l < 256 ^ l.length := by simpa [numOf] using foldl_num l 0
theorem numOf_snoc (l : List UInt8) (b : UInt8) : numOf (l ++ [b]) = numOf l * 256 + b.toNat := by simp [numOf]
theorem numOf_take7 (l : List UInt8) (k : Nat) (h : k < 8) : numOf (l.take k) < 72057594037927936 := by
  have h1 := numOf_lt (l.take k)
  have h2 : (l.take k).length ≤ 7 := by simp; omega
  have h3 : 256 ^ (l.take k).length ≤ 256 ^ 7 := Nat.pow_le_pow_right (by omega) h2
  exact Nat.lt_of_lt_of_le h1 (Nat.le_trans h3 (by decide))
theorem orJoin (x b : Nat) (hx : (x : Int) < 72057594037927936) (hb : (b : Int) < 256) : bits .or .u64 ((x : Int) * 256) (b : Int) = ((x * 256 + b : Nat) : Int) := by
  have e : ((x : Int) * 256) = ((x * 256 : Nat) : Int) := by simp
  rw [e, u64_or_nat (x * 256) b (by omega) (by omega), Nat.or_comm, nat_join8' (x * 256) b (by omega) (by omega)]

theorem takeS_len (n : Int) (s : Option (List UInt8)) : ((takeS n s).1.length : Int) ≤ max n 0 := by
  cases s with
  | none => simp [takeS]; omega
  | some l =>
    simp only [takeS]
    split
    · simp; omega
    · simp; omega
theorem num_le8 {q : Int} (h : num q = true) : q ≤ 8 := by simp [num] at h; omega

set_option maxHeartbeats 400000 in
theorem num_w (g d : Nat) (s : Option (List UInt8)) (q : Int) (w : World) (h : RS w g d s) (hb : lenS s ≤ 140737488355328) (hq : num q = true) :
    Calls Tryd.prog 32 #[.pointer (some ⟨g, 0, none⟩), .int .i64 q] w fun e w' => e = .returned (.int .u64 (numOf (takeS q s).1)) ∧ RS w' g d (takeS q s).2 ∧ w.grownBy w' (some g) := by
  have hm8 : (takeS q s).1.length ≤ 8 := by have := takeS_len q s; have := num_le8 hq; omega
  have HQ := Lib.hid hq
  have HB := Lib.hid hb
  clear hq hb
  go_enter Tryd.func32, Tryd.ntmps32
  go_wp2_with fail
  refine (isWidth_yes q _ HQ.out).mono ?_
  rintro e w' ⟨rfl, rfl⟩
  go_wp2_with fail
  refine (take_any g d s q _ h HB.out).mono ?_
  rintro e w1 ⟨v1, rfl, ho1, hr1, hg1⟩
  obtain ⟨g1, hge, hs1⟩ := ho1.shows
  obtain ⟨A, c, rfl, hlc, hc, hcell⟩ := hs1
  generalize hm : (takeS q s).1 = m at *
  have HM := Lib.hid hm
  clear hm
  go_wp2_with fail
  go_loop [5, 15] (fun n i => ∃ k : Nat, k ≤ m.length ∧ i = .int .i64 k ∧ n = .int .u64 (numOf (m.take k))) (fun _ i => m.length - (intOf i).toNat)
  case atStart => exact ⟨0, Nat.zero_le _, rfl, rfl⟩
  case round =>
    obtain ⟨k, hk, rfl, rfl⟩ := hrel
    by_cases hlt : k < m.length
    · obtain ⟨o, rfl, _, hcl⟩ := hcell (by omega)
      have hcc : w1.cell? ⟨g1, o + k, none⟩ = some (.int .u8 (m[k]'hlt).toNat) := hcl k hlt
      have hlo : ((m[k]'hlt).toNat : Int) < 256 := by have := (m[k]'hlt).toNat_lt; omega
      have hx : (numOf (m.take k) : Int) < 72057594037927936 := by have := numOf_take7 m k (by omega); omega
      have HJ : Hid (bits .or .u64 ((numOf (m.take k) : Int) * 256) ((m[k]'hlt).toNat : Int) = ((numOf (m.take (k + 1)) : Nat) : Int)) := by
        show _ = _
        rw [orJoin _ _ hx hlo, List.take_succ_eq_append_getElem hlt, numOf_snoc]
      generalize (m[k]'hlt).toNat = b at *
      generalize numOf (m.take k) = x at *
      clear hcell hcl
      go_wp2
      go_round
      case rel => exact ⟨k + 1, by omega, by go_num, by rw [HJ.out]⟩
      case measure => simp [intOf]; omega
    · go_wp2
      go_ret
      refine ⟨?_, hr1, hg1⟩
      have : k = m.length := by omega
      subst this
      rw [HM.out, List.take_length]
      rfl

set_option maxHeartbeats 400000 in
theorem num_no (g d : Nat) (s : Option (List UInt8)) (q : Int) (w : World) (h : RS w g d s) (hb : lenS s ≤ 140737488355328) (hq : num q = false) :
    Calls Tryd.prog 32 #[.pointer (some ⟨g, 0, none⟩), .int .i64 q] w fun e w' => e = .returned (.int .u64 (0 : Nat)) ∧ RS w' g d (takeS (-1) s).2 ∧ w.grownBy w' (some g) := by
  have e0 : (takeS (-1) s).1 = [] := by cases s <;> simp [takeS]
  have E0 := Lib.hid e0
  have HQ := Lib.hid hq
  have HB := Lib.hid hb
  clear hq hb e0
  go_enter Tryd.func32, Tryd.ntmps32
  go_wp2_with fail
  refine (isWidth_no q _ HQ.out).mono ?_
  rintro e w' ⟨rfl, rfl⟩
  go_wp2_with fail
  refine (take_any g d s (-1) _ h HB.out).mono ?_
  rintro e w1 ⟨v1, rfl, ho1, hr1, hg1⟩
  rw [E0.out] at ho1
  obtain ⟨A, c, rfl, _⟩ := ho1.form
  go_wp2_with fail
  go_loop [5, 15] (fun n i => i = .int .i64 0 ∧ n = .int .u64 0) (fun _ _ => 0)
  case atStart => exact ⟨rfl, rfl⟩
  case round =>
    obtain ⟨rfl, rfl⟩ := hrel
    go_wp2
    go_ret
    exact ⟨rfl, hr1, hg1⟩

set_option maxHeartbeats 400000 in
theorem num_nil (q : Int) (w : World) :
    Calls Tryd.prog 32 #[.pointer none, .int .i64 q] w fun e w' => e = .returned (.int .u64 (0 : Nat)) ∧ w = w' := by
  by_cases hq : num q = true
  · have HQ := Lib.hid hq
    clear hq
    go_enter Tryd.func32, Tryd.ntmps32
    go_wp2_with fail
    refine (isWidth_yes q _ HQ.out).mono ?_
    rintro e w' ⟨rfl, rfl⟩
    go_wp2_with fail
    refine (take_nil q _).mono ?_
    rintro e w' ⟨rfl, rfl⟩
    go_wp2_with fail
    go_loop [5, 15] (fun n i => i = .int .i64 0 ∧ n = .int .u64 0) (fun _ _ => 0)
    case atStart => exact ⟨rfl, rfl⟩
    case round =>
      obtain ⟨rfl, rfl⟩ := hrel
      go_wp2
      go_ret
      exact ⟨rfl, rfl⟩
  · have hq : num q = false := by simpa using hq
    have HQ := Lib.hid hq
    clear hq
    go_enter Tryd.func32, Tryd.ntmps32
    go_wp2_with fail
    refine (isWidth_no q _ HQ.out).mono ?_
    rintro e w' ⟨rfl, rfl⟩
    go_wp2_with fail
    refine (take_nil (-1) _).mono ?_
    rintro e w' ⟨rfl, rfl⟩
    go_wp2_with fail
    go_loop [5, 15] (fun n i => i = .int .i64 0 ∧ n = .int .u64 0) (fun _ _ => 0)
    case atStart => exact ⟨rfl, rfl⟩
    case round =>
      obtain ⟨rfl, rfl⟩ := hrel
      go_wp2
      go_ret
      exact ⟨rfl, rfl⟩

theorem num_any (g d : Nat) (s : Option (List UInt8)) (q : Int) (w : World) (h : RS w g d s) (hb : lenS s ≤ 140737488355328) :
    Calls Tryd.prog 32 #[.pointer (some ⟨g, 0, none⟩), .int .i64 q] w fun e w' => e = .returned (.int .u64 (numS q s).1) ∧ RS w' g d (numS q s).2 ∧ w.grownBy w' (some g) := by
  unfold numS
  by_cases hq : num q = true
  · rw [if_pos hq]; exact num_w g d s q w h hb hq
  · rw [if_neg hq]
    have e0 : (takeS (-1) s).1 = [] := by cases s <;> simp [takeS]
    rw [e0]
    exact num_no g d s q w h hb (by simpa using hq)

end Go.Proofs.YtmpcddljgcckcaaDoor
