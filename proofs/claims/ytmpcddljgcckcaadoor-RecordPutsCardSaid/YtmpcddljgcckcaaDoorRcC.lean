/-
  The contract of record.Scan.
  Conditions: the table reads as the program lays it; at most 1000000 bytes.
-/
import Derived.Test.YtmpcddljgcckcaaDoorRcB
import Derived.WalkMore
namespace Go.Proofs.YtmpcddljgcckcaaDoor
open Go.RowKit
open Crc (sealD okSeal sealD_length sealD_ok okSeal_iff openD Tab)
set_option linter.unusedVariables false
set_option linter.unusedSimpArgs false

theorem infoRc : (Tryd.prog.info? 33).map (fun i => (i.zero, i.size, i.bytes)) = some (some (.agg #[.int .u8 0, .string ⟨#[]⟩]), 2, 24) := by kernel_rfl

/-- What Scan says. -/
def RScanSaid (l : List UInt8) (w : World) (e : Ending) (w' : World) : Prop :=
  ∃ v, e = .returned (.tuple #[v, .int .i64 (scanR l).2.1, .int .u8 (scanR l).2.2]) ∧ OwnG rcC 33 w' w.heap.size v (scanR l).1 ∧ Below w.heap.size w w'

theorem tail_sb (s : ByteArray) (k : Nat) : sb (s.extract k s.size) = (sb s).drop k := by
  rw [rc_sb_extract, List.take_of_length_le (by rw [sb_length]; exact Nat.le_refl _)]

set_option maxRecDepth 100000 in
set_option maxHeartbeats 4000000 in
theorem rscan_any (s : ByteArray) (w : World) (hT : Tab w) (hs : s.size ≤ 1000000) :
    Calls Tryd.prog 13 #[.string s] w (RScanSaid (sb s) w) := by
  have HT := Lib.hid (fun w' (hb : Below w.heap.size w w') => hT.below hb hT.1)
  obtain ⟨l, hl⟩ : ∃ l, l = sb s := ⟨_, rfl⟩
  have hll : l.length = s.size := by rw [hl, sb_length]
  have hfst : ∀ k, k ≤ s.size → ∀ W, Tab W → Calls Tryd.prog 22 #[.string (s.extract k s.size)] W fun e w' => e = .returned (.tuple #[(rcR (l.drop k)).v, .int .u8 (stR (l.drop k))]) ∧ Below W.heap.size W w' := fun k hk W hT => by
    have h1 := tail_sb s k
    have h2 := congrArg List.length h1
    rw [sb_length, List.length_drop, sb_length] at h2
    have h3 := first_any (s.extract k s.size) W hT (by omega)
    rw [h1, ← hl] at h3
    exact h3
  have HF := Lib.hid hfst
  unfold RScanSaid
  rw [← hl]
  have HL := Lib.hid hll
  have HM0 := Lib.hid (ScanMid.start l)
  clear hl hT hfst hll
  go_enter Tryd.func13, Tryd.ntmps13
  go_wp2_with fail
  go_step3
  go_wp2_with fail
  go_step3
  go_wp2_with fail
  go_loopw [5, 6, 7] (fun x i st wr => ∃ (k : Nat) (fs : List Rc), i = .int .i64 k ∧ st = .int .u8 0 ∧ k ≤ s.size ∧ 13 * fs.length ≤ k ∧ Hid (ScanMid l fs k) ∧ OwnG rcC 33 wr w.heap.size x fs ∧ Hid (Below w.heap.size w wr)) (fun _ i _ _ => s.size - (intOf i).toNat)
  case atStart => exact ⟨0, [], rfl, rfl, Nat.zero_le _, Nat.zero_le _, HM0, OwnG.nil_ _ _ _ _, Lib.hid (Below.refl _ _)⟩
  case round =>
    obtain ⟨k, fs, rfl, rfl, hk, hfk, HM, ho, HB⟩ := hrel
    rename World => wj
    by_cases hlt : k < s.size
    · have hki : (k : Int) < (s.size : Int) := by omega
      have HF1 := Lib.hid (HF.out k hk wj (HT.out wj HB.out))
      have hbz := HB.out.size
      by_cases h0 : stR (l.drop k) = 0
      · obtain ⟨f1, f2, f3, f4⟩ := first_sound h0
        have HMN := Lib.hid (HM.out.step h0)
        rw [List.length_drop, HL.out] at f4
        obtain ⟨r, hr⟩ : ∃ r, r = rcR (l.drop k) := ⟨_, rfl⟩
        obtain ⟨n, hn⟩ : ∃ n, n = nAt (l.drop k) := ⟨_, rfl⟩
        rw [← hr] at HF1 HMN f2
        rw [← hn] at HMN f2 f3 f4
        rw [h0] at HF1
        clear hr hn f1 h0
        obtain ⟨K, p⟩ := r
        simp only [Rc.v] at HF1
        simp only [] at f2
        have HP := Lib.hid f2
        have HSZ := Lib.hid (fun W => size_len n W (by omega))
        have hkt := K.toNat_lt
        clear f2
        go_wp2_with fail
        with_reducible refine HF1.out.mono ?_
        rintro e w2 ⟨rfl, hb2⟩
        have hz2 := hb2.size
        have HB2 := Lib.hid (HB.out.trans (hb2.mono HB.out.size))
        have ho2 := ho.below hb2 (Nat.le_refl _)
        clear ho
        have hBox := heap_alloc_new w2 (.cells #[.int .u8 K.toNat, .string p] 33)
        have ho3 := ho2.alloc_ (.cells #[.int .u8 K.toNat, .string p] 33)
        have HB3 := Lib.hid (HB2.out.alloc HB2.out.size (.cells #[.int .u8 K.toNat, .string p] 33))
        have hs3 : w2.heap.size < (w2.alloc (.cells #[.int .u8 K.toNat, .string p] 33)).heap.size := by simp
        have hblk := ho2.block
        have HOB := Lib.hid hblk
        clear ho2 hblk
        go_upto_region 8 with fail
        generalize w2.alloc _ = W3 at *
        have x0 : W3.cell? ⟨w2.heap.size, 0, none⟩ = some (.int .u8 K.toNat) := by rw [cell_of_row _ _ 0 _ 33 (0, 0) hBox]; rfl
        have x1 : W3.cell? ⟨w2.heap.size, 1, none⟩ = some (.string p) := by rw [cell_of_row _ _ 1 _ 33 (0, 0) hBox]; rfl
        go_upto_region 9 with (at_builtin; go_loud (refine wpList_appendG rcC _ rfl (.tmp 25) (.tmp 27) 22 rfl w.heap.size 33 (.agg #[.int .u8 0, .string ⟨#[]⟩]) 24 Tryd.underlying22 infoRc rfl _ fs rfl (ho3.alloc_ _) W3.heap.size (.slice (some ⟨W3.heap.size, 0, none⟩) 1 1) [⟨K, p⟩] rfl (ShowsG.lit (C := rcC) [⟨K, p⟩] (by simp [Code.all, rcC, u8c]) (by simp [maxLen])) (by simp; omega) (by simp; omega) (by simp; omega) ?_; intro v4 w4 ho4 hg4))
        have hB4 : Below w.heap.size w w4 := (HB3.out.alloc (by omega) _).grown hg4 (by simp; omega) (fun q hq => (ho3.block q hq).1)
        have x4 : w4.cell? ⟨w2.heap.size, 1, none⟩ = some (.string p) := by
          have e1 : w4.heap[w2.heap.size]? = W3.heap[w2.heap.size]? := by
            rw [hg4.block w2.heap.size (by simp; omega) (fun e => by have := (HOB.out _ e.symm).2; omega)]
            exact Below.heap_alloc W3 _ _ (by omega)
          rw [World.cell?_of_block (w := W3) e1, x1]
        have hz4 : W3.heap.size ≤ w4.heap.size := by have := hg4.size; simp at this; omega
        have HB4 := Lib.hid hB4
        obtain ⟨m, hm⟩ : ∃ m, m = k + (n + 13) := ⟨_, rfl⟩
        rw [← hm] at HMN
        have hmi : (k : Int) + ((n + 13 : Nat) : Int) = (m : Int) := by omega
        have hpn : p.size = n := HP.out
        have hms : m ≤ s.size := by omega
        have HMS := Lib.hid (show m ≤ s.size ∧ k < m ∧ 13 * (fs.length + 1) ≤ m by omega)
        have HMM := Lib.hid hm
        clear hB4 hg4 ho3 hBox hm
        go_wp2_with fail
        with_reducible refine (HSZ.out _).mono ?_
        rintro e w5 ⟨rfl, rfl⟩
        go_wp2_with fail
        go_roundw
        case rel => exact ⟨m, fs ++ [⟨K, p⟩], by have := HMM.out; go_num, rfl, HMS.out.1, by rw [List.length_append]; exact HMS.out.2.2, HMN, ho4, HB4⟩
        case measure => simp [intOf]; have := HMS.out; omega
      · have hfin := HM.out.stop (by rw [HL.out]; exact hlt) h0
        have HFIN := Lib.hid hfin
        have hne : (rcR (l.drop k)).v = .agg #[.int .u8 0, .string ⟨#[]⟩] := rcR_ne h0
        rw [hne] at HF1
        obtain ⟨st, hst⟩ : ∃ st, st = stR (l.drop k) := ⟨_, rfl⟩
        rw [← hst] at HF1 HFIN h0
        have h0' : ¬ (st : Int) = 0 := by omega
        have h0b : ((st : Int) == 0) = false := by rw [beq_eq_false_iff_ne]; exact h0'
        clear hfin hne hst h0
        go_wp2_with fail
        with_reducible refine HF1.out.mono ?_
        rintro e w2 ⟨rfl, hb2⟩
        have hz2 := hb2.size
        have HB2 := Lib.hid (HB.out.trans (hb2.mono HB.out.size))
        have ho2 := ho.below hb2 (Nat.le_refl _)
        clear ho
        go_wp2_with fail
        simp only [Exit.noGoto]
        go_ret3
        refine ⟨_, by rw [HFIN.out]; rfl, by rw [HFIN.out]; exact ho2.alloc_ _, HB2.out.alloc HB2.out.size _⟩
    · have hki : ¬ (k : Int) < (s.size : Int) := by omega
      have HFIN := Lib.hid (HM.out.done (by rw [HL.out]; omega))
      go_wp2_with fail
      go_ret3
      refine ⟨_, by rw [HFIN.out]; rfl, by rw [HFIN.out]; exact ho, HB.out⟩

end Go.Proofs.YtmpcddljgcckcaaDoor
