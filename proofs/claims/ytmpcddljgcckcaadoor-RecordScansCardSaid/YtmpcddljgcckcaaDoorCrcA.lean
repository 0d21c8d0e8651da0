/-
  The contracts of crc.shifted, crc.More, crc.Sum and of the document's More and Sum: the register's arithmetic.
  Conditions: the table reads as the program lays it.
-/
import Derived.Test.YtmpcddljgcckcaaDoorP
import Derived.Test.YtmpcddljgcckcaaDoorCrcT
import Derived.Laws.BitsAllLaws
namespace Go.Proofs.YtmpcddljgcckcaaDoor
namespace Crc
open Go.RowKit
set_option linter.unusedVariables false
set_option linter.unusedSimpArgs false

/-- The program's table reads as the register's arithmetic has it. -/
def Tab (w : World) : Prop := 0 < w.heap.size ∧ ∀ i, i < 16 → w.cell? ⟨0, i, none⟩ = some (.int .u32 (tab.getD i 0 : Nat))

theorem tab_lt (i : Nat) : tab.getD i 0 < 4294967296 := by
  by_cases h : i < 16
  · have : ∀ i, i < 16 → tab.getD i 0 < 4294967296 := by decide
    exact this i h
  · simp [List.getD, List.getElem?_eq_none (show tab.length ≤ i by simp [tab]; omega)]

theorem shifted_any (r : Nat) (w : World) (h : Tab w) (hr : r < 4294967296) :
    Calls Tryd.prog 47 #[.int .u32 r] w fun e w' => e = .returned (.int .u32 (Tn 4 r : Nat)) ∧ w = w' := by
  have hc := h.2 (r % 16) (Nat.mod_lt _ (by omega))
  have hlt := tab_lt (r % 16)
  have ht := T4 r
  generalize tab.getD (r % 16) 0 = v at hc hlt ht
  have ha : bits BinOp.and IntKind.u32 (r : Int) 15 = ((r % 16 : Nat) : Int) := by
    rw [show (15 : Int) = ((15 : Nat) : Int) from rfl, u32_and_nat _ _ hr (by omega), nat_mask4]
  have hx : bits BinOp.xor IntKind.u32 ((r : Int) / 16) (v : Int) = ((Tn 4 r : Nat) : Int) := by
    rw [show (r : Int) / 16 = ((r / 16 : Nat) : Int) by omega, u32_xor_nat _ _ (by omega) hlt, ht]
  clear ht
  have h16 : ((r % 16 : Nat) : Int) < 16 := by omega
  go_enter Tryd.func47, Tryd.ntmps47
  go_wp2_with fail
  go_ret
  exact ⟨rfl, rfl⟩

/-- What a walk says of one more byte, for a value that is a byte. -/
theorem xor_byte (r n : Nat) (hr : r < 4294967296) (hn : n < 256) : bits BinOp.xor IntKind.u32 (r : Int) (n : Int) = ((r ^^^ n : Nat) : Int) := u32_xor_nat _ _ hr (by omega)
theorem xor_lt (r n : Nat) (hr : r < 4294967296) (hn : n < 256) : r ^^^ n < 4294967296 := Nat.xor_lt_two_pow (n := 32) hr (by omega)

theorem flip_u32 (s : Nat) (hs : s < 4294967296) : bits BinOp.xor IntKind.u32 IntKind.u32.max (s : Int) = ((s ^^^ 4294967295 : Nat) : Int) := by
  rw [show IntKind.u32.max = (4294967295 : Int) from rfl, show (4294967295 : Int) = ((4294967295 : Nat) : Int) from rfl, u32_xor_nat _ _ (by omega) hs, Nat.xor_comm]

theorem Tab.below {w w' : World} {B : Nat} (h : Tab w) (hb : Below B w w') (h0 : 0 < B) : Tab w' :=
  ⟨by have := hb.size; have := h.1; omega, fun i hi => (World.cell?_of_block (w := w) (hb.block 0 h0)).trans (h.2 i hi)⟩

theorem more_any (A : Option Addr) (c s d : Nat) (l : List UInt8) (w : World) (h : Tab w) (hs : s < 4294967296) (hl : Shows w d (.slice A l.length c) l) (hb : l.length ≤ 140737488355328) :
    Calls Tryd.prog 37 #[.int .u32 s, .slice A l.length c] w fun e w' => e = .returned (.int .u32 (more s l : Nat)) ∧ w = w' := by
  have hsg : IntKind.u32.signed = false := rfl
  have hno := flip_u32 s hs
  have hr0 : s ^^^ 4294967295 < 4294967296 := Nat.xor_lt_two_pow (n := 32) hs (by omega)
  go_enter Tryd.func37, Tryd.ntmps37
  go_wp2_with fail
  go_loop [5, 11] (fun reg i => ∃ k : Nat, k ≤ l.length ∧ i = .int .i64 k ∧ reg = .int .u32 (run (s ^^^ 4294967295) (l.take k) : Nat)) (fun _ i => l.length - (intOf i).toNat)
  case atStart => exact ⟨0, Nat.zero_le _, rfl, by simp [run]⟩
  case round =>
    obtain ⟨k, hk, rfl, rfl⟩ := hrel
    have hrk := run_lt (l.take k) hr0
    by_cases hlt : k < l.length
    · obtain ⟨o, rfl, _, hcl⟩ := hl.at_ (by omega)
      have hcc : w.cell? ⟨d, o + k, none⟩ = some (.int .u8 (l[k]'hlt).toNat) := hcl k hlt
      have hlo : (l[k]'hlt).toNat < 256 := (l[k]'hlt).toNat_lt
      have hstep : run (s ^^^ 4294967295) (l.take (k + 1)) = Tn 4 (Tn 4 (run (s ^^^ 4294967295) (l.take k) ^^^ (l[k]'hlt).toNat)) := by
        rw [List.take_succ_eq_append_getElem hlt, run_snoc, ← Tn_add]
      generalize (l[k]'hlt).toNat = n at *
      generalize run (s ^^^ 4294967295) (l.take k) = r at *
      have hx := xor_byte r n hrk hlo
      have hxl := xor_lt r n hrk hlo
      have hlo' : (n : Int) < 4294967296 := by omega
      clear hcl
      have HS := Lib.hid hstep
      clear hstep
      go_wp2_with fail
      refine (shifted_any _ _ h hxl).mono ?_
      rintro e w' ⟨rfl, rfl⟩
      go_wp2_with fail
      refine (shifted_any _ _ h (Tn_lt 4 hxl)).mono ?_
      rintro e w' ⟨rfl, rfl⟩
      go_wp2_with fail
      go_round
      case rel => exact ⟨k + 1, by omega, by go_num, by rw [HS.out]⟩
      case measure => simp [intOf]; omega
    · have hkl : k = l.length := by omega
      subst hkl
      rw [List.take_length]
      rw [List.take_length] at hrk
      have hno2 := flip_u32 _ hrk
      go_wp2_with fail
      go_ret
      exact ⟨rfl, rfl⟩

theorem sum_any (A : Option Addr) (c d : Nat) (l : List UInt8) (w : World) (h : Tab w) (hl : Shows w d (.slice A l.length c) l) (hb : l.length ≤ 140737488355328) :
    Calls Tryd.prog 26 #[.slice A l.length c] w fun e w' => e = .returned (.int .u32 (sum l : Nat)) ∧ w = w' := by
  go_enter Tryd.func26, Tryd.ntmps26
  go_wp2_with fail
  refine (more_any A c 0 d l _ h (by omega) hl hb).mono ?_
  rintro e w' ⟨rfl, rfl⟩
  go_wp2_with fail
  go_ret
  exact ⟨rfl, rfl⟩

theorem T_cases (x : Nat) : T x = if x % 2 = 1 then x / 2 ^^^ 2197175160 else x / 2 := by
  unfold T
  split
  · rfl
  · rw [Nat.xor_zero]
theorem Tn_succ : ∀ n x, Tn (n + 1) x = T (Tn n x)
  | 0, _ => rfl
  | n + 1, x => Tn_succ n (T x)

set_option maxRecDepth 100000 in
set_option maxHeartbeats 400000 in
/-- The document's More. -/
theorem qmore_any (A : Option Addr) (c s d : Nat) (l : List UInt8) (w : World) (hs : s < 4294967296) (hl : Shows w d (.slice A l.length c) l) (hb : l.length ≤ 140737488355328) :
    Calls Tryd.prog 40 #[.int .u32 s, .slice A l.length c] w fun e w' => e = .returned (.int .u32 (more s l : Nat)) ∧ w = w' := by
  have hsg : IntKind.u32.signed = false := rfl
  have hno := flip_u32 s hs
  have hr0 : s ^^^ 4294967295 < 4294967296 := Nat.xor_lt_two_pow (n := 32) hs (by omega)
  go_enter Tryd.func40, Tryd.ntmps40
  go_wp2_with fail
  go_loop [5, 6] (fun reg i => ∃ k : Nat, k ≤ l.length ∧ i = .int .i64 k ∧ reg = .int .u32 (run (s ^^^ 4294967295) (l.take k) : Nat)) (fun _ i => l.length - (intOf i).toNat)
  case atStart => exact ⟨0, Nat.zero_le _, rfl, by simp [run]⟩
  case round =>
    obtain ⟨k, hk, rfl, rfl⟩ := hrel
    have hrk := run_lt (l.take k) hr0
    by_cases hlt : k < l.length
    · obtain ⟨o, rfl, _, hcl⟩ := hl.at_ (by omega)
      have hcc : w.cell? ⟨d, o + k, none⟩ = some (.int .u8 (l[k]'hlt).toNat) := hcl k hlt
      have hlo : (l[k]'hlt).toNat < 256 := (l[k]'hlt).toNat_lt
      have hstep : run (s ^^^ 4294967295) (l.take (k + 1)) = Tn 8 (run (s ^^^ 4294967295) (l.take k) ^^^ (l[k]'hlt).toNat) := by
        rw [List.take_succ_eq_append_getElem hlt, run_snoc]
      generalize (l[k]'hlt).toNat = n at *
      generalize run (s ^^^ 4294967295) (l.take k) = r at *
      have hx := xor_byte r n hrk hlo
      have hxl := xor_lt r n hrk hlo
      have hlo' : (n : Int) < 4294967296 := by omega
      clear hcl
      have HS := Lib.hid hstep
      clear hstep
      go_wp2_with fail
      generalize r ^^^ n = x at *
      have HX := Lib.hid hxl
      clear hxl hlo hrk hr0 hlo' hs hno hx
      go_loop [5, 7] (fun reg j => ∃ q : Nat, q ≤ 8 ∧ j = .int .i64 q ∧ reg = .int .u32 (Tn q x : Nat)) (fun _ j => 8 - (intOf j).toNat)
      case atStart => exact ⟨0, by omega, rfl, rfl⟩
      case round =>
        obtain ⟨q, hq, rfl, rfl⟩ := hrel
        by_cases hq8 : q < 8
        · have hy := Tn_lt q HX.out
          have hs1 := Lib.hid ((Tn_succ q x))
          generalize Tn q x = y at *
          have hm : (y : Int) / 2 % 4294967296 = (y : Int) / 2 := by omega
          by_cases hodd : y % 2 = 1
          · have hb : ((y : Int) % 2 == 1) = true := by simp; omega
            have hxx : bits BinOp.xor IntKind.u32 ((y : Int) / 2) 2197175160 = ((y / 2 ^^^ 2197175160 : Nat) : Int) := by
              rw [show (y : Int) / 2 = ((y / 2 : Nat) : Int) by omega, show (2197175160 : Int) = ((2197175160 : Nat) : Int) from rfl, u32_xor_nat _ _ (by omega) (by omega)]
            clear hy
            go_wp2_with fail
            go_round
            case rel => exact ⟨q + 1, by omega, by go_num, by rw [hs1.out, T_cases, if_pos hodd]⟩
            case measure => simp [intOf]; omega
          · have hb : ((y : Int) % 2 == 1) = false := by simp; omega
            go_wp2_with fail
            go_round
            case rel => exact ⟨q + 1, by omega, by go_num, by rw [hs1.out, T_cases, if_neg hodd]; go_num⟩
            case measure => simp [intOf]; omega
        · obtain rfl : q = 8 := by omega
          go_wp2_with fail
          go_round
          case rel => exact ⟨k + 1, by omega, by go_num, by rw [HS.out]⟩
          case measure => simp [intOf]; omega
    · have hkl : k = l.length := by omega
      subst hkl
      rw [List.take_length]
      rw [List.take_length] at hrk
      have hno2 := flip_u32 _ hrk
      go_wp2_with fail
      go_ret
      exact ⟨rfl, rfl⟩

theorem qsum_any (A : Option Addr) (c d : Nat) (l : List UInt8) (w : World) (hl : Shows w d (.slice A l.length c) l) (hb : l.length ≤ 140737488355328) :
    Calls Tryd.prog 29 #[.slice A l.length c] w fun e w' => e = .returned (.int .u32 (sum l : Nat)) ∧ w = w' := by
  go_enter Tryd.func29, Tryd.ntmps29
  go_wp2_with fail
  refine (qmore_any A c 0 d l _ (by omega) hl hb).mono ?_
  rintro e w' ⟨rfl, rfl⟩
  go_wp2_with fail
  go_ret
  exact ⟨rfl, rfl⟩

end Crc
end Go.Proofs.YtmpcddljgcckcaaDoor
