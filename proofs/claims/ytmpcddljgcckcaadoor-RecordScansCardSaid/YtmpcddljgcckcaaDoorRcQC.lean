/-
  The contract of the document's own Scan.
  Conditions: at most 1000000 bytes.
-/
import Derived.Test.YtmpcddljgcckcaaDoorRcQB
import Derived.Test.YtmpcddljgcckcaaDoorRcC
namespace Go.Proofs.YtmpcddljgcckcaaDoor
open Go.RowKit
open Crc (sealD okSeal sealD_length sealD_ok okSeal_iff openD Tab)
set_option linter.unusedVariables false
set_option linter.unusedSimpArgs false

/-- What the document's Scan says. -/
def QScanSaid (l : List UInt8) (w : World) (e : Ending) (w' : World) : Prop :=
  ∃ v, e = .returned (.tuple #[v, .int .i64 (scanR l).2.1, .int .i64 (scanR l).2.2]) ∧ OwnG rcC 33 w' w.heap.size v (scanR l).1 ∧ Below w.heap.size w w'

set_option maxRecDepth 100000 in
set_option maxHeartbeats 4000000 in
theorem qrscan_any (s : ByteArray) (w : World) (hs : s.size ≤ 1000000) :
    Calls Tryd.prog 14 #[.string s] w (QScanSaid (sb s) w) := by
  obtain ⟨l, hl⟩ : ∃ l, l = sb s := ⟨_, rfl⟩
  have hll : l.length = s.size := by rw [hl, sb_length]
  have hfst : ∀ k, k ≤ s.size → ∀ W, Calls Tryd.prog 24 #[.string (s.extract k s.size)] W fun e w' => e = .returned (oneV (l.drop k)) ∧ Below W.heap.size W w' := fun k hk W => by
    have h1 := tail_sb s k
    have h2 := congrArg List.length h1
    rw [sb_length, List.length_drop, sb_length] at h2
    have h3 := qone_any (s.extract k s.size) W (by omega)
    rw [h1, ← hl] at h3
    exact h3
  have HF := Lib.hid hfst
  unfold QScanSaid
  rw [← hl]
  have HL := Lib.hid hll
  have HM0 := Lib.hid (ScanMid.start l)
  clear hl hfst hll
  go_enter Tryd.func14, Tryd.ntmps14
  go_wp2_with fail
  go_loopw [5, 6] (fun x i wr => ∃ (k : Nat) (fs : List Rc), i = .int .i64 k ∧ k ≤ s.size ∧ 13 * fs.length ≤ k ∧ Hid (ScanMid l fs k) ∧ OwnG rcC 33 wr w.heap.size x fs ∧ Hid (Below w.heap.size w wr)) (fun _ i _ => s.size - (intOf i).toNat)
  case atStart => exact ⟨0, [], rfl, Nat.zero_le _, Nat.zero_le _, HM0, OwnG.nil_ _ _ _ _, Lib.hid (Below.refl _ _)⟩
  case round =>
    obtain ⟨k, fs, rfl, hk, hfk, HM, ho, HB⟩ := hrel
    rename World => wj
    have hki : (k : Int) ≤ (s.size : Int) := by omega
    have hf1 := HF.out k hk wj
    have hbz := HB.out.size
    by_cases h0 : stR (l.drop k) = 0
    · obtain ⟨f1, f2, f3, f4⟩ := first_sound h0
      have hone : oneV (l.drop k) = .tuple #[(rcR (l.drop k)).v, .int .i64 (nAt (l.drop k) + 13 : Nat), .int .i64 0] := by rw [oneV, if_neg (stR_ne h0), if_pos h0]
      rw [hone] at hf1
      have HMN := Lib.hid (HM.out.step h0)
      rw [List.length_drop, HL.out] at f4
      obtain ⟨r, hr⟩ : ∃ r, r = rcR (l.drop k) := ⟨_, rfl⟩
      obtain ⟨n, hn⟩ : ∃ n, n = nAt (l.drop k) + 13 := ⟨_, rfl⟩
      rw [← hr, ← hn] at hf1 HMN
      have hn13 : 13 ≤ n ∧ n ≤ s.size - k := by omega
      clear hr hn f1 f2 f3 f4 h0 hone
      obtain ⟨K, p⟩ := r
      simp only [Rc.v] at hf1
      have HF1 := Lib.hid hf1
      have hkt := K.toNat_lt
      have hn0 : ¬ (n : Int) = 0 := by omega
      have hn0b : ((n : Int) == 0) = false := by rw [beq_eq_false_iff_ne]; exact hn0
      clear hf1
      go_wp2_with fail
      with_reducible refine HF1.out.mono ?_
      rintro e w2 ⟨rfl, hb2⟩
      have hz2 := hb2.size
      have HB2 := Lib.hid (HB.out.trans (hb2.mono HB.out.size))
      have ho2 := ho.below hb2 (Nat.le_refl _)
      clear ho
      have hBox := heap_alloc_new w2 (.cells #[.int .u8 K.toNat, .string p] 33)
      have ho3 := ho2.alloc_ (.cells #[.int .u8 K.toNat, .string p] 33)
      have HB3 := Lib.hid (HB2.out.alloc HB2.out.size (.cells #[.int .u8 K.toNat, .string p] 33))
      have hs3 : w2.heap.size < (w2.alloc (.cells #[.int .u8 K.toNat, .string p] 33)).heap.size := by simp
      clear ho2
      go_upto_region 6 with fail
      generalize w2.alloc _ = W3 at *
      have x0 : W3.cell? ⟨w2.heap.size, 0, none⟩ = some (.int .u8 K.toNat) := by rw [cell_of_row _ _ 0 _ 33 (0, 0) hBox]; rfl
      have x1 : W3.cell? ⟨w2.heap.size, 1, none⟩ = some (.string p) := by rw [cell_of_row _ _ 1 _ 33 (0, 0) hBox]; rfl
      go_upto_region 7 with (at_builtin; refine wpList_appendG rcC _ rfl (.tmp 23) (.tmp 25) 22 rfl w.heap.size 33 (.agg #[.int .u8 0, .string ⟨#[]⟩]) 24 Tryd.underlying22 infoRc rfl _ fs rfl (ho3.alloc_ _) W3.heap.size (.slice (some ⟨W3.heap.size, 0, none⟩) 1 1) [⟨K, p⟩] rfl (ShowsG.lit (C := rcC) [⟨K, p⟩] (by simp [Code.all, rcC, u8c]) (by simp [maxLen])) (by simp; omega) (by simp; omega) (by simp; omega) ?_; intro v4 w4 ho4 hg4)
      have hB4 : Below w.heap.size w w4 := (HB3.out.alloc (by omega) _).grown hg4 (by simp; omega) (fun q hq => (ho3.block q hq).1)
      have HB4 := Lib.hid hB4
      obtain ⟨m, hm⟩ : ∃ m, m = k + n := ⟨_, rfl⟩
      rw [← hm] at HMN
      have hmi : (k : Int) + (n : Int) = (m : Int) := by omega
      have HMS := Lib.hid (show m ≤ s.size ∧ k < m ∧ 13 * (fs.length + 1) ≤ m by omega)
      have hmb : m ≤ 1000000 := by omega
      clear hB4 hg4 ho3 hBox hm hn13
      go_wp2_with fail
      go_roundw
      case rel => exact ⟨m, fs ++ [⟨K, p⟩], rfl, HMS.out.1, by rw [List.length_append]; exact HMS.out.2.2, HMN, ho4, HB4⟩
      case measure => simp [intOf]; have := HMS.out; omega
    · have hfin : ∃ st, oneV (l.drop k) = .tuple #[.agg #[.int .u8 0, .string ⟨#[]⟩], .int .i64 0, .int .i64 (st : Nat)] ∧ scanR l = (fs, k, st) := by
        by_cases hkl : k < l.length
        · exact ⟨stR (l.drop k), qone_bad (by intro e; have := congrArg List.length e; rw [List.length_drop] at this; simp at this; omega) rfl h0, HM.out.stop hkl h0⟩
        · exact ⟨0, by rw [List.drop_of_length_le (by omega), oneV, if_pos rfl]; rfl, HM.out.done (by omega)⟩
      obtain ⟨st, hone, hsc⟩ := hfin
      rw [hone] at hf1
      have HFIN := Lib.hid hsc
      have HF1 := Lib.hid hf1
      clear hf1 hone hsc h0
      go_wp2_with fail
      with_reducible refine HF1.out.mono ?_
      rintro e w2 ⟨rfl, hb2⟩
      have hz2 := hb2.size
      have HB2 := Lib.hid (HB.out.trans (hb2.mono HB.out.size))
      have ho2 := ho.below hb2 (Nat.le_refl _)
      clear ho
      go_wp2_with fail
      go_ret3
      refine ⟨_, by rw [HFIN.out]; rfl, by rw [HFIN.out]; exact ho2.alloc_ _, HB2.out.alloc HB2.out.size _⟩

end Go.Proofs.YtmpcddljgcckcaaDoor
