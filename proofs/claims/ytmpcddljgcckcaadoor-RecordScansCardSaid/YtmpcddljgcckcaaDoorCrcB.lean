/-
  The contracts of crc.written, crc.Seal, crc.Open and of the document's Seal and Open.
  Conditions: the table reads as the program lays it; at most 2^47 - 4 bytes.
-/
import Derived.Test.YtmpcddljgcckcaaDoorCrcA
namespace Go.Proofs.YtmpcddljgcckcaaDoor
namespace Crc
open Go.RowKit
set_option linter.unusedVariables false
set_option linter.unusedSimpArgs false

theorem or_join (i a m : Nat) (q : Int) (hq : q = ((2 ^ i : Nat) : Int)) (ha : a < 2 ^ i) (hm : m * 2 ^ i < 4294967296) (hal : a < 4294967296) :
    Value.int IntKind.u32 (bits BinOp.or IntKind.u32 (a : Int) ((m : Int) * q)) = Value.int IntKind.u32 ((a + 2 ^ i * m : Nat) : Int) := by
  rw [hq, ← Int.natCast_mul, u32_or_nat _ _ hal hm, Nat.or_comm, nat_join i _ _ (by simp) ha, Nat.add_comm, Nat.mul_comm]

theorem four {l : List UInt8} (h : l.length = 4) : ∃ a b c d, l = [a, b, c, d] := by
  match l, h with
  | [a, b, c, d], _ => exact ⟨a, b, c, d, rfl⟩

theorem written_any (A : Option Addr) (c n d : Nat) (l : List UInt8) (w : World) (hn : n = 4) (hl : Shows w d (.slice A n c) l) :
    Calls Tryd.prog 41 #[.slice A n c] w fun e w' => e = .returned (.int .u32 (le l : Nat)) ∧ w = w' := by
  subst hn
  obtain ⟨h4, _, _⟩ := hl.lens
  obtain ⟨o, rfl, _, hcl⟩ := hl.at_ (by omega)
  obtain ⟨x0, x1, x2, x3, rfl⟩ := four h4
  have c0 : w.cell? ⟨d, o, none⟩ = some (.int .u8 x0.toNat) := hcl 0 (by simp)
  have c1 : w.cell? ⟨d, o + 1, none⟩ = some (.int .u8 x1.toNat) := hcl 1 (by simp)
  have c2 : w.cell? ⟨d, o + 2, none⟩ = some (.int .u8 x2.toNat) := hcl 2 (by simp)
  have c3 : w.cell? ⟨d, o + 3, none⟩ = some (.int .u8 x3.toNat) := hcl 3 (by simp)
  have h0 := x0.toNat_lt
  have h1 := x1.toNat_lt
  have h2 := x2.toNat_lt
  have h3 := x3.toNat_lt
  clear hcl hl
  obtain ⟨f, hf⟩ : ∃ f : Nat → Nat, f = fun k => le ([x0, x1, x2, x3].take k) := ⟨_, rfl⟩
  have f0 : f 0 = 0 := by rw [hf]; rfl
  have f1 : f 1 = x0.toNat := by rw [hf]; simp [le]
  have f2 : f 2 = x0.toNat + 256 * x1.toNat := by rw [hf]; simp [le]
  have f3 : f 3 = x0.toNat + 256 * x1.toNat + 65536 * x2.toNat := by rw [hf]; simp [le]; omega
  have f4 : f 4 = x0.toNat + 256 * x1.toNat + 65536 * x2.toNat + 16777216 * x3.toNat := by rw [hf]; simp [le]; omega
  have e4 : le [x0, x1, x2, x3] = f 4 := by rw [hf]; rfl
  rw [e4]
  clear e4 hf
  generalize x0.toNat = n0 at *
  generalize x1.toNat = n1 at *
  generalize x2.toNat = n2 at *
  generalize x3.toNat = n3 at *
  have e0 : (n0 : Int) < 4294967296 := by omega
  have e1 : (n1 : Int) < 4294967296 := by omega
  have e2 : (n2 : Int) < 4294967296 := by omega
  have e3 : (n3 : Int) < 4294967296 := by omega
  have F0 := Lib.hid f0
  have F1 := Lib.hid f1
  have F2 := Lib.hid f2
  have F3 := Lib.hid f3
  have F4 := Lib.hid f4
  clear f0 f1 f2 f3 f4
  go_enter Tryd.func41, Tryd.ntmps41
  go_wp2_with fail
  go_loop [3, 5] (fun acc i => ∃ k : Nat, k ≤ 4 ∧ i = .int .i64 k ∧ acc = .int .u32 (f k : Nat)) (fun _ i => 4 - (intOf i).toNat)
  case atStart => exact ⟨0, by omega, rfl, by rw [F0.out]; rfl⟩
  case round =>
    obtain ⟨k, hk, rfl, rfl⟩ := hrel
    have hk5 : k = 0 ∨ k = 1 ∨ k = 2 ∨ k = 3 ∨ k = 4 := by omega
    rcases hk5 with rfl | rfl | rfl | rfl | rfl
    · go_wp2_with fail
      go_round
      case rel => exact ⟨1, by omega, rfl, by rw [F0.out, F1.out]; simpa using or_join 0 0 n0 1 rfl (by omega) (by omega) (by omega)⟩
      case measure => simp [intOf]
    · go_wp2_with fail
      go_round
      case rel => exact ⟨2, by omega, rfl, by rw [F1.out, F2.out]; exact or_join 8 n0 n1 256 rfl (by omega) (by omega) (by omega)⟩
      case measure => simp [intOf]
    · go_wp2_with fail
      go_round
      case rel => exact ⟨3, by omega, rfl, by rw [F2.out, F3.out]; exact or_join 16 (n0 + 256 * n1) n2 65536 rfl (by omega) (by omega) (by omega)⟩
      case measure => simp [intOf]
    · go_wp2_with fail
      go_round
      case rel => exact ⟨4, by omega, rfl, by rw [F3.out, F4.out]; exact or_join 24 (n0 + 256 * n1 + 65536 * n2) n3 16777216 rfl (by omega) (by omega) (by omega)⟩
      case measure => simp [intOf]
    · go_wp2_with fail
      go_ret
      exact ⟨rfl, rfl⟩

/-- What stands in the sealed bytes when k of the checksum's bytes are written. -/
def part (l : List UInt8) (S k : Nat) : List UInt8 := l ++ ((le4 S).take k ++ List.replicate (4 - k) 0)
theorem part_length (l : List UInt8) (S k : Nat) (hk : k ≤ 4) : (part l S k).length = l.length + 4 := by
  simp [part, le4]; omega
theorem part_set (l : List UInt8) (S k : Nat) (hk : k < 4) : (part l S k).set (l.length + k) (UInt8.ofNat (S / 256 ^ k)) = part l S (k + 1) := by
  unfold part
  rw [List.set_append_right _ _ (by omega), show l.length + k - l.length = k by omega]
  congr 1
  have hk4 : k = 0 ∨ k = 1 ∨ k = 2 ∨ k = 3 := by omega
  rcases hk4 with rfl | rfl | rfl | rfl <;> simp [le4, List.replicate]

set_option maxHeartbeats 400000 in
theorem seal_any (A : Option Addr) (c d : Nat) (l : List UInt8) (w : World) (h : Tab w) (hl : Shows w d (.slice A l.length c) l) (hd : 0 < l.length → d < w.heap.size) (hb : l.length ≤ 140737488355324) :
    Calls Tryd.prog 17 #[.slice A l.length c] w fun e w' => ∃ v, e = .returned v ∧ Own 5 w' w.heap.size v (sealD l) ∧ Below w.heap.size w w' := by
  obtain ⟨S, hS⟩ : ∃ S, S = sum l := ⟨_, rfl⟩
  have hSlt := sum_lt l
  rw [← hS] at hSlt
  have hD : sealD l = part l S 4 := by rw [hS]; simp [sealD, part, le4]
  have hsum := sum_any A c d l w h hl (by omega)
  rw [← hS] at hsum
  rw [hD]
  clear hD hS
  have HSUM := Lib.hid hsum
  clear hsum
  go_enter Tryd.func17, Tryd.ntmps17
  go_wp2_with fail
  refine HSUM.out.mono ?_
  rintro e w' ⟨rfl, rfl⟩
  go_wp2_with (first
    | (at_make
       refine wpList_make8 _ rfl (.tmp 10) (.tmp 10) 31 5 rfl Tryd.underlying31 info5 ((l.length : Int) + 4) (l.length + 4) rfl rfl (by simp) (by omega) ?_
       intro w1 ho1 hg1)
    | (show wpList _ _ _ ({ dst := _, op := Op.call { callee := Callee.builtin Builtin.copy, args := _, argTypes := _ }, type := _, pos := _, after := _, guard := _ } :: _) _ _
       refine wpList_copy8 _ rfl (.tmp 12) (.tmp 13) 31 5 rfl Tryd.underlying31 info5 w.heap.size (.slice (some ⟨w.heap.size, 0, none⟩) (l.length + 4) (l.length + 4)) _ rfl ho1 d (.slice A l.length c) l rfl (hl.keep hg1.size fun hp => hg1.block _ (hd hp) (by simp)) (by simp) ?_
       intro w2 ho2 hg2))
  have e0 : l ++ (List.replicate (l.length + 4) 0).drop l.length = part l S 0 := by simp [part]
  rw [e0] at ho2
  clear e0
  have hb2 : Below w.heap.size w w2 := ((Below.refl _ _).grown hg1 (Nat.le_refl _) (by simp)).grown hg2 hg1.size (by simp [Value.ownBlock])
  have hpl : ∀ k, k ≤ 4 → (part l S k).length = l.length + 4 := fun k hk => part_length l S k hk
  have hps : ∀ k, k < 4 → (part l S k).set (l.length + k) (UInt8.ofNat (S / 256 ^ k)) = part l S (k + 1) := fun k hk => part_set l S k hk
  obtain ⟨F, hF⟩ : ∃ F, F = part l S := ⟨_, rfl⟩
  simp only [← hF] at ho2 hpl hps
  have HF := Lib.hid hF
  clear hF
  clear hg1 hg2 ho1
  go_loopw [5, 15] (fun _ i wr => ∃ k : Nat, k ≤ 4 ∧ i = .int .i64 k ∧ Own 5 wr w.heap.size (.slice (some ⟨w.heap.size, 0, none⟩) (l.length + 4) (l.length + 4)) (F k) ∧ Below w.heap.size w wr) (fun _ i _ => 4 - (intOf i).toNat)
  case atStart => exact ⟨0, by omega, rfl, ho2, hb2⟩
  case round =>
    obtain ⟨k, hk, rfl, ho, hbw⟩ := hrel
    by_cases hk4 : k < 4
    · obtain ⟨b, e, _, hbl, hfr, hcl⟩ := ho.at_ (by omega)
      cases e
      have hc := hcl (l.length + k) (by rw [hpl k hk]; omega)
      have hf := hfr (l.length + k)
      generalize (F k)[l.length + k]'_ = z at hc
      have hset := fun u hu => ho.set_ (hpl k hk) (l.length + k) (UInt8.ofNat (S / 256 ^ k)) u hu
      rw [hps k hk4] at hset
      clear hcl hfr
      have HS := Lib.hid hset
      clear hset
      have hk5 : k = 0 ∨ k = 1 ∨ k = 2 ∨ k = 3 := by omega
      rcases hk5 with rfl | rfl | rfl | rfl
      · rw [Nat.add_zero] at hf hc
        go_wp2_with fail
        go_roundw
        case rel => exact ⟨1, by omega, rfl, HS.out _ (by simp [u8c]), below_set hbw (Nat.le_refl _) _⟩
        case measure => simp [intOf]
      · go_wp2_with fail
        go_roundw
        case rel => exact ⟨2, by omega, rfl, HS.out _ (by simp [u8c]), below_set hbw (Nat.le_refl _) _⟩
        case measure => simp [intOf]
      · go_wp2_with fail
        go_roundw
        case rel => exact ⟨3, by omega, rfl, HS.out _ (by simp [u8c]), below_set hbw (Nat.le_refl _) _⟩
        case measure => simp [intOf]
      · go_wp2_with fail
        go_roundw
        case rel => exact ⟨4, by omega, rfl, HS.out _ (by simp [u8c]; omega), below_set hbw (Nat.le_refl _) _⟩
        case measure => simp [intOf]
    · obtain rfl : k = 4 := by omega
      go_wp2_with fail
      go_ret
      exact ⟨_, rfl, by rw [← HF.out]; exact ho, hbw⟩

/-- The document's Seal. -/
theorem qseal_any (A : Option Addr) (c n d : Nat) (l : List UInt8) (w : World) (hn : l.length = n) (hl : Shows w d (.slice A n c) l) (hb : l.length ≤ 140737488355324) :
    Calls Tryd.prog 21 #[.slice A n c] w fun e w' => ∃ v, e = .returned v ∧ Own 5 w' w.heap.size v (sealD l) ∧ Below w.heap.size w w' := by
  subst hn
  obtain ⟨S, hS⟩ : ∃ S, S = sum l := ⟨_, rfl⟩
  have hSlt := sum_lt l
  rw [← hS] at hSlt
  have hD : sealD l = l ++ le4 S := by rw [hS]; rfl
  have hsum := qsum_any A c d l w hl (by omega)
  rw [← hS] at hsum
  rw [hD]
  clear hD hS
  have HSUM := Lib.hid hsum
  clear hsum
  have hm : (S : Int) / 16777216 % 256 = (S : Int) / 16777216 := by omega
  go_enter Tryd.func21, Tryd.ntmps21
  go_wp2_with fail
  refine HSUM.out.mono ?_
  rintro e w' ⟨rfl, rfl⟩
  go_wp2_with (first
    | (at_builtin
       refine wpList_append8 _ rfl (.tmp 7) (.tmp 8) 31 rfl w.heap.size 5 Tryd.underlying31 info5 (.slice none 0 0) [] rfl (Own.nil_ _ _ _) d _ l rfl hl (by simp; omega) (Nat.le_refl _) ?_
       intro v1 w1 ho1 hg1
       rw [List.nil_append] at ho1
       have hb1 : Below w.heap.size w w1 := (Below.refl _ _).grown hg1 (Nat.le_refl _) (by simp [Value.ownBlock])
       have hz1 := hb1.size)
    | (at_builtin
       refine wpList_append8 _ rfl (.tmp 10) (.tmp 22) 31 rfl w.heap.size 5 Tryd.underlying31 info5 v1 l rfl (ho1.alloc_ _) w1.heap.size (.slice (some ⟨w1.heap.size, 0, none⟩) 4 4) (le4 S) rfl (Shows.lit (w := w1) (le4 S) (by simp [bs, u8c, le4]; try omega) (by simp [maxLen, le4])) (by simp [le4]; omega) (by simp; omega) ?_
       intro v2 w2 ho2 hg2))
  go_ret
  exact ⟨v2, rfl, ho2, frame1 hb1 ho1 hg2⟩

end Crc
end Go.Proofs.YtmpcddljgcckcaaDoor
