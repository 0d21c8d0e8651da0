/-
  RecordTurned: for every row of records and every turn the law returns true, and its arguments read as before; the table is tied to the program's text.
  Conditions: the package-level table reads as the program's own text lays it (the card ties it).
-/
import Derived.Test.YtmpcddljgcckcaaDoorRcR
import Derived.Test.YtmpcddljgcckcaaDoorCards
import Derived.Test.YtmpcddljgcckcaaDoorTie
import Derived.IntWalk
import Derived.Deep.CutBlock
namespace Go.Proofs.YtmpcddljgcckcaaDoor
open Go.ChangeShapes Go.WideShapes Go.ChangeAt Go.RowKit
open Go.ChangeMaps (open_string shut_string)
open Crc (sealD okSeal sealD_length sealD_ok okSeal_iff openD Tab tab)
set_option linter.unusedVariables false
set_option linter.unusedSimpArgs false

theorem pow_b (b : Nat) (hb : b < 8) : (2 : Int) ^ b % 256 = ((2 ^ b : Nat) : Int) := by
  have h : b = 0 ∨ b = 1 ∨ b = 2 ∨ b = 3 ∨ b = 4 ∨ b = 5 ∨ b = 6 ∨ b = 7 := by omega
  rcases h with rfl | rfl | rfl | rfl | rfl | rfl | rfl | rfl <;> rfl

/-- The bytes of all, parted at one record. -/
theorem recsB_part (l : List Rc) (k : Nat) (h : k < l.length) : recsB l = recsB (l.take k) ++ (recB l[k] ++ recsB (l.drop (k + 1))) := by
  have e : l = l.take k ++ l[k] :: l.drop (k + 1) := by rw [← List.drop_eq_getElem_cons h, List.take_append_drop]
  conv => lhs; rw [e]
  rw [recsB_append, recsB_cons]
theorem turned_scan (l : List Rc) (k : Nat) (h : k < l.length) (hp : ∀ r ∈ l, r.p.size ≤ 65536) (m : List UInt8) (v f : Nat) (hlen : m.length = l[k].p.size + 13) (hf : f ≤ 8 * (l[k].p.size + 13))
    (hm : Crc.le m = Crc.le (recB l[k]) ^^^ Crc.ebits v f (8 * (l[k].p.size + 13)) 32) (hne : Crc.ebits v f (8 * (l[k].p.size + 13)) 32 ≠ 0) :
    scanR (recsB (l.take k) ++ (m ++ recsB (l.drop (k + 1)))) = (l.take k, (recsB (l.take k)).length, 2) := by
  have e : l = l.take k ++ l[k] :: l.drop (k + 1) := by rw [← List.drop_eq_getElem_cons h, List.take_append_drop]
  exact scan_turned (l.take k) (l.drop (k + 1)) l[k] m v f (by rw [← e]; exact hp) hlen hf hm hne

/-- A turn's box. -/
theorem turn_cells (w : World) (x y z : Value) (t : TypeId) : (w.alloc (.cells #[x, y, z] t)).cell? ⟨w.heap.size, 0, none⟩ = some x ∧ (w.alloc (.cells #[x, y, z] t)).cell? ⟨w.heap.size, 1, none⟩ = some y ∧ (w.alloc (.cells #[x, y, z] t)).cell? ⟨w.heap.size, 2, none⟩ = some z := by
  have h := heap_alloc_new w (.cells #[x, y, z] t)
  exact ⟨by rw [cell_of_row _ _ 0 _ t (0, 0) h]; rfl, by rw [cell_of_row _ _ 1 _ t (0, 0) h]; rfl, by rw [cell_of_row _ _ 2 _ t (0, 0) h]; rfl⟩

/-- One byte of the middle part is stored. -/
theorem set_mid (P m T : List UInt8) (j : Nat) (y : UInt8) (hj : j < m.length) : (P ++ (m ++ T)).set (P.length + j) y = P ++ (m.set j y ++ T) := by
  rw [List.set_append_right _ _ (by omega), show P.length + j - P.length = j by omega, List.set_append_left _ _ hj]
theorem get_mid (P m T : List UInt8) (j : Nat) (hj : j < m.length) (h : P.length + j < (P ++ (m ++ T)).length) : (P ++ (m ++ T))[P.length + j] = m[j] := by
  rw [List.getElem_append_right (by omega)]
  simp only [show P.length + j - P.length = j by omega]
  rw [List.getElem_append_left hj]

set_option maxRecDepth 100000 in
set_option maxHeartbeats 4000000 in
theorem turned_walk (A : Option Addr) (c d0 : Nat) (l : List Rc) (a0 b0 v : Nat) (w : World) (hT : Tab w) (h : ShowsG rcC w d0 (.slice A l.length c) l) (hl : l.length ≤ 17592186044416) (ha : a0 < 256) (hb : b0 < 65536) (hv : v < 4294967296) :
    Calls Tryd.prog 8 #[.slice A l.length c, .agg #[.int .u8 a0, .int .u16 b0, .int .u32 v]] w fun e w' => e = .returned (.bool true) ∧ Below w.heap.size w w' := by
  have HT := Lib.hid (fun w' (hb : Below w.heap.size w w') => hT.below hb hT.1)
  have HL := Lib.hid (fun w' (hb : Below w.heap.size w w') => (h.keep hb.size fun hp => hb.block d0 (h.lt hp) : ShowsG rcC w' d0 (.slice A l.length c) l))
  obtain ⟨W0, hW0⟩ : ∃ W0, W0 = w.alloc (.cells #[.int .u8 a0, .int .u16 b0, .int .u32 v] 46) := ⟨_, rfl⟩
  obtain ⟨x0, x1, x2⟩ := turn_cells w (.int .u8 a0) (.int .u16 b0) (.int .u32 v) 46
  have hb0 : Below w.heap.size w W0 := by rw [hW0]; exact (Below.refl _ _).alloc (Nat.le_refl _) _
  rw [← hW0] at x0 x1 x2
  have HW0 := Lib.hid hW0
  have HB0 := Lib.hid hb0
  clear h hT hW0 hb0
  go_enter Tryd.func8, Tryd.ntmps8
  go_upto_region 1 with fail
  rw [← HW0.out]
  go_quiet (fail)
  have hbq : ∀ q, Below w.heap.size w (W0.drewN q) := fun q => below_drewN HB0.out q
  generalize hW1 : W0.drewN _ = W1 at *
  have hB1 : Below w.heap.size w W1 := by rw [← hW1]; exact hbq _
  clear hW1 hbq x0 x1 x2
  have hg := rgreat_any A c d0 l W1 (HL.out W1 hB1) hl
  have HG := Lib.hid hg
  clear hg
  have HH1 := Lib.hid (rhead_any W1 (HT.out W1 hB1))
  go_wp2_with fail
  with_reducible refine HG.out.mono ?_
  rintro e w1 ⟨b, rfl, rfl, hgb⟩
  cases b with
  | true =>
    go_wp2_with fail
    with_reducible refine HH1.out.mono ?_
    rintro e w2 ⟨rfl, hb2⟩
    go_wp2_with fail
    go_ret
    exact ⟨rfl, hB1.trans (hb2.mono hB1.size)⟩
  | false =>
    by_cases hl0 : l.length = 0
    · have h00 : ((l.length : Int) == 0) = true := by rw [beq_iff_eq]; omega
      have h01 : (l.length : Int) = 0 := by omega
      go_wp2_with fail
      with_reducible refine HH1.out.mono ?_
      rintro e w2 ⟨rfl, hb2⟩
      go_wp2_with fail
      go_ret
      exact ⟨rfl, hB1.trans (hb2.mono hB1.size)⟩
    · have h00 : ((l.length : Int) == 0) = false := by rw [beq_eq_false_iff_ne]; omega
      have h01 : ¬ (l.length : Int) = 0 := by omega
      obtain ⟨h40, hsz⟩ := hgb rfl
      have h65 : ∀ r ∈ l, r.p.size ≤ 65536 := fun r hr => Nat.le_trans (hsz r hr) (by omega)
      have hN := recsB_len l 4000 hsz
      obtain ⟨N, hNe⟩ : ∃ N, N = (recsB l).length := ⟨_, rfl⟩
      rw [← hNe] at hN
      have hN2 : N ≤ 160520 := by omega
      have HPUT := Lib.hid (rput_ok A c d0 l w1 (HT.out w1 hB1) (HL.out w1 hB1) (by omega) h65)
      obtain ⟨S, hS⟩ : ∃ S, S = str8 (recsB l) := ⟨_, rfl⟩
      have hS2 : S.size = N := by rw [hS, str8_size, hNe]
      rw [← hS] at HPUT
      have HS := Lib.hid hS
      have HNE := Lib.hid hNe
      have HSZ := Lib.hid hS2
      have H65 := Lib.hid h65
      have HZ4 := Lib.hid hsz
      obtain ⟨k, hk⟩ : ∃ k, k = a0 % l.length := ⟨_, rfl⟩
      have hkl : k < l.length := by rw [hk]; exact Nat.mod_lt _ (by omega)
      have hki : (a0 : Int) % (l.length : Int) = (k : Int) := by rw [hk]; simp
      have hlen0 : ¬ (l.length : Int) = 0 := by omega
      clear hS hNe hS2 h65 hN hk hgb hsz
      go_wp2_with fail
      with_reducible refine HPUT.out.mono ?_
      rintro e w2 ⟨rfl, hb2⟩
      have hB2 : Below w.heap.size w w2 := hB1.trans (hb2.mono hB1.size)
      go_wp2_with fail
      go_loopw [11, 12] (fun en wh wr => ∃ i q : Nat, i ≤ k ∧ wh = .int .i64 i ∧ en = .int .i64 q ∧ q ≤ N ∧ Hid (q = (recsB (l.take i)).length) ∧ wr = w2) (fun _ wh _ => l.length - (intOf wh).toNat)
      case atStart => exact ⟨0, 0, Nat.zero_le _, rfl, rfl, Nat.zero_le _, Lib.hid (by simp [recsB_nil]), rfl⟩
      case round =>
        obtain ⟨i, q, hi, rfl, rfl, hq, HQ, rfl⟩ := hrel
        have HLw := HL.out wr hB2
        obtain ⟨o, rfl, _, hcl⟩ := HLw.at_ (by omega)
        by_cases hlt : i < k
        · have hil : (i : Int) < (k : Int) := by omega
          have hil2 : i < l.length := by omega
          have hil3 : (i : Int) < (l.length : Int) := by omega
          obtain ⟨p0, p1⟩ := rc_cell hcl hil2
          have hstep := recsB_take_step l i hil2
          rw [← HQ.out] at hstep
          have hle : (recsB (l.take (i + 1))).length ≤ N := by
            rw [HNE.out]
            have := congrArg List.length (congrArg recsB (List.take_append_drop (i + 1) l))
            rw [recsB_append, List.length_append] at this
            omega
          rw [hstep] at hle
          have HLE := Lib.hid hle
          clear hcl HLw hle
          generalize l[i] = r at *
          obtain ⟨K, p⟩ := r
          simp only [] at p0 p1 hstep HLE
          have HST := Lib.hid hstep
          clear hstep
          have hpb : p.size ≤ 160520 := by have := HLE.out; omega
          go_wp2_with fail
          go_roundw
          case rel => exact ⟨i + 1, q + p.size + 13, by omega, by go_num, by go_num, HLE.out, Lib.hid HST.out.symm, by trivial⟩
          case measure => simp [intOf]; omega
        · have hik : i = k := by omega
          subst hik
          have hil : ¬ (i : Int) < (i : Int) := by omega
          have hil3 : (i : Int) < (l.length : Int) := by omega
          obtain ⟨p0, p1⟩ := rc_cell hcl hkl
          obtain ⟨r, hr⟩ : ∃ r, r = l[i] := ⟨_, rfl⟩
          have hpart := recsB_part l i hkl
          rw [← hr] at p0 p1 hpart
          have HTS := Lib.hid (fun m v f => turned_scan l i hkl H65.out m v f)
          rw [← hr] at HTS
          have HP := Lib.hid hpart
          have hr4 : r.p.size ≤ 4000 := by rw [hr]; exact HZ4.out _ (List.getElem_mem hkl)
          clear hcl HLw hr hpart
          obtain ⟨K, p⟩ := r
          simp only [] at p0 p1 hr4 HTS
          obtain ⟨R, hR⟩ : ∃ R, R = recB ⟨K, p⟩ := ⟨_, rfl⟩
          obtain ⟨P, hP⟩ : ∃ P, P = recsB (l.take i) := ⟨_, rfl⟩
          obtain ⟨T, hTT⟩ : ∃ T, T = recsB (l.drop (i + 1)) := ⟨_, rfl⟩
          have hRl : R.length = p.size + 13 := by rw [hR]; exact recB_length _
          have hsbS : sb S = P ++ (R ++ T) := by rw [HS.out, sb_str8, HP.out, hP, hR, hTT]
          have hPl : P.length = q := by rw [hP]; exact HQ.out.symm
          have hNt : N = q + (p.size + 13) + T.length := by
            have := congrArg List.length hsbS
            rw [sb_length, List.length_append, List.length_append, hPl, hRl, HSZ.out] at this
            omega
          rw [← hR, ← hP, ← hTT] at HTS
          obtain ⟨z, hz⟩ : ∃ z, z = p.size + 13 := ⟨_, rfl⟩
          obtain ⟨Z, hZ⟩ : ∃ Z, Z = 8 * z := ⟨_, rfl⟩
          rw [← hz] at HTS hRl hNt
          rw [← hZ] at HTS
          have hZi : 8 * ((p.size : Int) + 13) = (Z : Int) := by omega
          have hZ8 : (Z : Int).tdiv 8 = (z : Int) := by rw [Int.tdiv_eq_ediv_of_nonneg (by omega)]; omega
          have hZ8' : (Z : Int) / 8 = (z : Int) := by omega
          have hlt8 : ¬ (S.size : Int) < (q : Int) + (z : Int) := by rw [HSZ.out]; omega
          have hfl : b0 % Z < Z := Nat.mod_lt _ (by omega)
          have hfe : (b0 : Int) % (Z : Int) = ((b0 % Z : Nat) : Int) := by simp
          obtain ⟨cc, w3, hcv, hrow, hc1, hc2, hb3⟩ := tobytes_row wr S (by rw [HSZ.out]; omega)
          have hB3 : Below w.heap.size w w3 := hB2.trans (hb3.mono hB2.size)
          rw [hsbS] at hrow
          have HRL := Lib.hid hRl
          have HPL := Lib.hid hPl
          have HNT := Lib.hid hNt
          have HZZ := Lib.hid (And.intro hz hZ)
          have HSB := Lib.hid hsbS
          have HR4 := Lib.hid hr4
          have HC := Lib.hid (And.intro hc1 hc2)
          have HROW := Lib.hid hrow
          clear hR hP hTT hRl hPl hNt hz hZ hsbS hc1 hc2 hrow
          obtain ⟨g, hg⟩ : ∃ g, g = wr.heap.size := ⟨_, rfl⟩
          rw [← hg] at hcv HROW
          have hgw : w.heap.size ≤ g := by rw [hg]; exact hB2.size
          clear hg
          go_wp2_with fail
          obtain ⟨f, hf⟩ : ∃ f, f = b0 % Z := ⟨_, rfl⟩
          rw [← hf] at hfl hfe
          have hfe2 : (b0 : Int).tmod (Z : Int) = (f : Int) := by rw [Int.tmod_eq_emod_of_nonneg (by omega), hfe]
          clear hf hil
          go_loopw [15, 16, 17] (fun tu ii _ wr => ∃ (j : Nat) (m : List UInt8), j ≤ 32 ∧ ii = .int .i64 j ∧ m.length = z ∧ Crc.le m = Crc.le R ^^^ Crc.ebits v f Z j ∧ (∃ tb : Bool, tu = .bool tb ∧ tb = decide (Crc.ebits v f Z j ≠ 0)) ∧ TRow g (P ++ (m ++ T)) wr ∧ Below w.heap.size w wr) (fun _ ii _ _ => 32 - (intOf ii).toNat)
          case atStart => exact ⟨0, R, by omega, rfl, HRL.out, by rw [Crc.ebits_zero, Nat.xor_zero], ⟨false, rfl, by rw [Crc.ebits_zero]; rfl⟩, HROW.out, hB3⟩
          case round =>
            obtain ⟨j, m, hj, rfl, hm, hle, ⟨tb, rfl, htb⟩, hrow, hbw⟩ := hrel
            rename World => wj
            have HLE := Lib.hid hle
            have HTB := Lib.hid htb
            have HM := Lib.hid hm
            have HROWj := Lib.hid hrow
            clear hle htb hm hrow
            by_cases hj32 : j < 32
            · have hj32' : (j : Int) < 32 := by omega
              have hZb : (Z : Int) ≤ 40000 := by omega
              have hqb : (q : Int) ≤ 160520 := by omega
              have wf1 : IntKind.i64.wrap (f : Int) = (f : Int) := i64_id _ (by omega) (by omega)
              have wf2 : IntKind.i64.wrap ((f : Int) + (j : Int)) = (f : Int) + (j : Int) := i64_id _ (by omega) (by omega)
              have hand : bits BinOp.and IntKind.u32 ((v : Int) / 2 ^ j) 1 = ((v / 2 ^ j % 2 : Nat) : Int) := by
                have h1 : (v : Int) / 2 ^ j = ((v / 2 ^ j : Nat) : Int) := by simp
                rw [h1, show (1 : Int) = ((1 : Nat) : Int) from rfl, u32_and_nat _ _ (Nat.lt_of_le_of_lt (Nat.div_le_self _ _) hv) (by omega), nat_mask1]
              have HV := Lib.hid hv
              have HFL := Lib.hid hfl
              clear ha hv hfl
              by_cases hbit : v.testBit j = true
              · have hb1 : v / 2 ^ j % 2 = 1 := by
                  rw [Nat.testBit_eq_decide_div_mod_eq] at hbit
                  simpa using hbit
                rw [hb1] at hand
                clear hb1
                by_cases hin : f + j < Z
                · have hlt : (f : Int) + (j : Int) < (Z : Int) := by omega
                  obtain ⟨u, b, hub, hb8⟩ : ∃ u b, f + j = 8 * u + b ∧ b < 8 := ⟨(f + j) / 8, (f + j) % 8, by omega, by omega⟩
                  have huz : u < z := by have := HZZ.out.2; omega
                  have hum : u < m.length := by rw [HM.out]; exact huz
                  have hlen : (P ++ (m ++ T)).length = S.size := by
                    rw [List.length_append, List.length_append, HM.out, HPL.out, HSZ.out, HNT.out]; omega
                  have hqu : P.length + u < (P ++ (m ++ T)).length := by rw [hlen, HSZ.out, HPL.out]; have := HNT.out; omega
                  have hc0 := HROWj.out.cell (P.length + u) hqu
                  have hf0 := HROWj.out.frozen (P.length + u) hqu
                  have hst0 := fun y => HROWj.out.set (P.length + u) y
                  rw [get_mid P m T u hum] at hc0
                  rw [HPL.out] at hc0 hf0
                  simp only [set_mid P m T u _ hum] at hst0
                  rw [HPL.out] at hst0
                  have hft : ((f : Int) + (j : Int)).tdiv 8 = (u : Int) := by rw [Int.tdiv_eq_ediv_of_nonneg (by omega)]; omega
                  have hfm : ((f : Int) + (j : Int)).tmod 8 = (b : Int) := by rw [Int.tmod_eq_emod_of_nonneg (by omega)]; omega
                  obtain ⟨X, hX⟩ : ∃ X, X = q + u := ⟨_, rfl⟩
                  have hqi : (q : Int) + (u : Int) = (X : Int) := by omega
                  have hqs : (X : Int) < (S.size : Int) := by rw [hlen, HPL.out] at hqu; omega
                  have hXb : (X : Int) ≤ 300000 := by omega
                  have hub2 : (u : Int) ≤ 40000 := by omega
                  have hc1 : wj.cell? ⟨g, X, none⟩ = some (.int .u8 (m[u]).toNat) := by rw [hX]; exact hc0
                  rw [← hX] at hf0 hst0
                  clear hX
                  generalize hzz : (m[u]).toNat = zz at hc1
                  have HZ9 := Lib.hid hzz
                  have HUB := Lib.hid hub
                  have HST0 := Lib.hid hst0
                  clear hzz hub hc0 hst0 hqu hlen
                  go_wp2_with fail
                  go_roundw
                  case rel =>
                    have hz8 : zz < 256 := by rw [← HZ9.out]; exact (m[u]).toNat_lt
                    have hpb : 2 ^ b < 256 := Nat.lt_of_lt_of_le (Nat.pow_lt_pow_right (by omega) hb8) (by decide)
                    have hxl : zz ^^^ 2 ^ b < 256 := Nat.xor_lt_two_pow (n := 8) hz8 hpb
                    have hval : bits BinOp.xor IntKind.u8 (zz : Int) (2 ^ b % 256) = ((zz ^^^ 2 ^ b : Nat) : Int) := by
                      rw [pow_b b hb8, u8_xor_nat _ _ hz8 hpb]
                    have hy : (UInt8.ofNat (zz ^^^ 2 ^ b)).toNat = zz ^^^ 2 ^ b := by rw [UInt8.toNat_ofNat']; exact Nat.mod_eq_of_lt hxl
                    have hls := Crc.le_set m u b (UInt8.ofNat (zz ^^^ 2 ^ b)) hb8 hum (by rw [hy, HZ9.out])
                    have hef := Crc.ebits_flip v f Z j hbit hin
                    have hen := Crc.ebits_flip_ne v f Z j hbit hin
                    refine ⟨j + 1, m.set u (UInt8.ofNat (zz ^^^ 2 ^ b)), by omega, by go_num, by rw [List.length_set]; exact HM.out, ?_, ⟨true, rfl, by simpa using hen⟩, ?_, below_set hbw hgw _⟩
                    · rw [hls, HLE.out, hef, HUB.out, Nat.xor_assoc]
                    · rw [hval]
                      have := HST0.out (UInt8.ofNat (zz ^^^ 2 ^ b))
                      unfold u8c at this
                      rw [hy] at this
                      exact this
                  case measure => simp [intOf]; omega
                · have hlt : ¬ (f : Int) + (j : Int) < (Z : Int) := by omega
                  go_wp2_with fail
                  go_roundw
                  case rel => exact ⟨j + 1, m, by omega, by go_num, HM.out, by rw [Crc.ebits_stay _ _ _ _ (.inr (by omega))]; exact HLE.out, ⟨tb, rfl, by rw [Crc.ebits_stay _ _ _ _ (.inr (by omega))]; exact HTB.out⟩, HROWj.out, hbw⟩
                  case measure => simp [intOf]; omega
              · have hb1 : v / 2 ^ j % 2 = 0 := by
                  rw [Nat.testBit_eq_decide_div_mod_eq] at hbit
                  simp at hbit
                  omega
                rw [hb1] at hand
                clear hb1
                go_wp2_with fail
                go_roundw
                case rel => exact ⟨j + 1, m, by omega, by go_num, HM.out, by rw [Crc.ebits_stay _ _ _ _ (.inl (by simpa using hbit))]; exact HLE.out, ⟨tb, rfl, by rw [Crc.ebits_stay _ _ _ _ (.inl (by simpa using hbit))]; exact HTB.out⟩, HROWj.out, hbw⟩
                case measure => simp [intOf]; omega
            · obtain rfl : j = 32 := by omega
              have hj32' : ¬ ((32 : Nat) : Int) < 32 := by omega
              have hlenM : (P ++ (m ++ T)).length = S.size := by
                rw [List.length_append, List.length_append, HM.out, HPL.out, HSZ.out, HNT.out]; omega
              have HHj := Lib.hid (rhead_any wj (HT.out wj hbw))
              cases tb with
              | false =>
                clear ha hv hfl
                go_wp2_with fail
                with_reducible refine HHj.out.mono ?_
                rintro e w5 ⟨rfl, hb5⟩
                go_wp2_with fail
                go_ret
                exact ⟨rfl, hbw.trans (hb5.mono hbw.size)⟩
              | true =>
                have hne : Crc.ebits v f Z 32 ≠ 0 := by
                  have := HTB.out
                  simpa using this.symm
                have hts := HTS.out m v f (by rw [HM.out]) (by omega) HLE.out hne
                have hqe : (P : List UInt8).length = q := HPL.out
                rw [hqe] at hts
                have hsh := HROWj.out.shows (by rw [hlenM]; exact HC.out.1) HC.out.2
                rw [hlenM] at hsh
                have hcv5 := conv_at hsh
                obtain ⟨M, hM⟩ : ∃ M, M = P ++ (m ++ T) := ⟨_, rfl⟩
                rw [← hM] at hts hcv5 hlenM
                have hlk : (l.take i).length = i := by rw [List.length_take]; omega
                have HSC2 := Lib.hid (fun W (hT : Tab W) => rscan_len (str8 M) (l.take i) i q 2 hlk W hT (by rw [str8_size, hlenM, HSZ.out]; omega) (by rw [sb_str8]; exact hts))
                have HSA := Lib.hid (fun W (hb : Below w.heap.size w W) (A4 : Option Addr) (c4 d4 : Nat) (h4 : ShowsG rcC W d4 (.slice A4 i c4) (l.take i)) => rsame_self A4 (some ⟨d0, o, none⟩) c4 c d4 d0 i (l.take i) hlk W h4 ((HL.out W hb).head (by omega)) (by omega))
                have HHW := Lib.hid (fun W (hT : Tab W) => rhead_any W hT)
                have hkc : (i : Int) ≤ (c : Int) := by have := ((HL.out wj hbw).lens).2.1; omega
                clear ha hv hfl hts hsh hM hlk hne hlenM
                go_wp2_with fail
                with_reducible refine (HSC2.out wj (HT.out _ hbw)).mono ?_
                rintro e w5 ⟨A5, c5, rfl, ho5, hb5⟩
                have hw5 : Below w.heap.size w w5 := hbw.trans (hb5.mono hbw.size)
                obtain ⟨g5, _, hs5⟩ := ho5.shows
                have HSA5 := Lib.hid (HSA.out w5 hw5 A5 c5 g5 hs5)
                have HTW := Lib.hid (fun W (hb : Below w5.heap.size w5 W) => HT.out W (hw5.trans (hb.mono hw5.size)))
                clear hs5 ho5
                go_wp2_with (first
                  | (with_reducible refine HSA5.out.mono ?_; rintro e w6 ⟨rfl, hb6⟩)
                  | (with_reducible refine (HHW.out w6 (HTW.out w6 hb6)).mono ?_; rintro e w7 ⟨rfl, hb7⟩))
                go_ret
                exact ⟨rfl, (hw5.trans (hb6.mono hw5.size)).trans (hb7.mono (hw5.trans (hb6.mono hw5.size)).size)⟩

set_option maxRecDepth 100000 in
theorem turned_walk_lifted (os : Os) (started : os.Started) (H : Type) (enc : TypeId × Value → H) :
    ReturnsInHanded {} Tryd.checked os 8 .any (fun w args => (Rows.recordTurnedSpec.pre enc Tryd.prog Tryd.f8 [] false w args ∧ laidMetH Tryd.prog laid1 w) ∧ sizedMet enc Tryd.prog Tryd.f8 (OpenSpec.ofChange Rows.recordTurnedSpec) false w args)
      (Rows.recordTurnedSpec.post enc Tryd.prog Tryd.f8 false true false false) := by
  refine returnsInHanded_of_change_and (C := Tryd.checked) (X := fun w _ => laidMetH Tryd.prog laid1 w) (fun _ _ _ hh h => h.of_heap hh) own started (by kernel_rfl) Tryd.func8
    (ChangeSpec.witness_shaped (enc := enc) (C := Tryd.checked) (os := os) (X := fun w _ => laidMetH Tryd.prog laid1 w) false (World.doorLaid Tryd.prog 14 os) #[.slice none 0 0, .agg #[.int .u8 0, .int .u16 0, .int .u32 0]] 8 rfl (World.shaped_of_RefB (by kernel_rfl) (by kernel_rfl)) (by kernel_rfl) (by kernel_rfl) (by kernel_rfl) (door_met os _)) ?_
  intro W base args ds gs before hval0 hW _ hsz0 hL _
  have hval : ∀ (j : Nat) t v, Tryd.f8.params[j]? = some t → args[j]? = some v → Value.okWide Tryd.prog W .any base t v := hval0
  have hsz : (DataW.weightsEach Tryd.prog (Tryd.f8.params.toList ++ Rows.recordTurnedSpec.plain.varTypes Tryd.prog) (ds ++ gs)).all (· ≤ reachBytes) = true := hsz0
  have hW' := hW
  obtain ⟨p, q, hA0, hV, rfl, hfz, hnd⟩ := hW
  have hA : DataW.TrodAll enc Tryd.prog W 0 (fun _ => true) true Tryd.f8.params.toList args.toList ds p := hA0
  rw [Tryd.params8] at hA hval hsz
  obtain ⟨v0, vs0, d0, ds0, p0, q0, hargs, rfl, rfl, h0, r0⟩ := trodAll_cons hA
  obtain ⟨v1, vs1, d1, ds1, p1, q1, rfl, rfl, rfl, h1, r1⟩ := trodAll_cons r0
  obtain ⟨rfl, rfl, rfl⟩ := trodAll_nil r1
  obtain rfl : args = #[v0, v1] := by cases args; simp_all
  obtain ⟨rfl, rfl⟩ := trodVars_none hV
  have k0 := h0
  have lt0 : ∀ x ∈ p0, x.block < W.heap.size := by obtain ⟨m, hm⟩ := k0; exact DataW.trod_lt m _ _ _ hm
  have k1 := h1
  have lt1 : ∀ x ∈ p1, x.block < W.heap.size := by obtain ⟨m, hm⟩ := k1; exact DataW.trod_lt m _ _ _ hm
  obtain ⟨A0, c0, b0, L0, rfl, sh0, l0⟩ := open_recs (hval 0 22 v0 rfl rfl) h0 hsz 0 rfl rfl
  obtain ⟨ta1, tb1, tc1, rfl, za1, zb1, zc1⟩ := open_turn (hval 1 46 v1 rfl rfl) h1
  clear hA0 hval0
  refine (turned_walk A0 c0 b0 L0 ta1 tb1 tc1 W (tab_of_laid hL) sh0 (by omega) za1 zb1 zc1).mono fun e W' ⟨he, bel⟩ => ?_
  subst he
  exact ⟨_, rfl, _, _, _, [], _, [], hW', trodAll_mk1 (shut_bool Tryd.underlying4 _), (trodAll_cons_mk (Below.trod laidOut (by kernel_rfl) (of_decide_eq_true (by kernel_rfl)) k0 bel lt0) (trodAll_cons_mk (Below.trod laidOut (by kernel_rfl) (of_decide_eq_true (by kernel_rfl)) k1 bel lt1) trodAll_mk0)), rfl, bel.frame _, fun h => by cases h⟩

theorem turned_walk_over : Rows.RecordTurnedSaid :=
  OpenClaim.holds_of_wide 8 Tryd.f8 rfl rfl rfl rfl rfl rfl rfl ⟨rfl, rfl, rfl, rfl, rfl⟩ rfl rfl rfl rfl rfl (by kernel_rfl) Tryd.func8 (by kernel_rfl)
    (of_decide_eq_true (by kernel_rfl)) (by unfold Func.isWrapper; first | (rw [if_pos (by decide +kernel)]; kernel_rfl) | (rw [if_neg (by decide +kernel)]; exact ⟨rfl, rfl⟩))
    (fun os started H enc _ => turned_walk_lifted os started H enc)

theorem recordTurned_holds : Rows.RecordTurnedCardSaid :=
  Claim7.holds_tied_plain_at .later [] [.data] true (true, "a9d5fd1340711233ce61910b50a92aefee660ba42ae3caf9da3306c67fcf17ac") false
    turned_walk_over (fun _ h => by cases h) (by kernel_rfl) (fun _ h => by cases h) recordTurned_row_tie rfl ⟨rfl, rfl⟩ (by kernel_rfl) rfl
    (fun f fn hf hfn => by
      obtain rfl : f = 8 := Option.some.inj ((show Tryd.prog.funcNamed "posthouse/posthouselaw11.RecordTurned" = some 8 by kernel_rfl).symm.trans hf) |>.symm
      obtain rfl : fn = Tryd.f8 := (Option.some.inj (Tryd.func8.symm.trans hfn)).symm
      exact ⟨by kernel_rfl, fun j t ht => by
        rw [Tryd.params8] at ht
        have hm : t ∈ [22, 46] := by simpa using Array.mem_of_getElem? ht
        have hall : ([22, 46].all fun u => !Tryd.prog.wantsStandIn u) = true := by kernel_rfl
        exact (show Tryd.prog.wantsStandIn t = false by simpa using List.all_eq_true.1 hall t hm)⟩)
    (by kernel_rfl)
#print axioms recordTurned_holds
end Go.Proofs.YtmpcddljgcckcaaDoor
