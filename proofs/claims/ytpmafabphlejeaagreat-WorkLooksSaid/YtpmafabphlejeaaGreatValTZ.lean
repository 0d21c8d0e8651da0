/-
  Texts, together: ValT, ValU.
  Conditions: none but sizes.
-/
import Derived.Test.YtpmafabphlejeaaGreatValRZ
import Derived.Test.YtpmafabphlejeaaGreatV5AZ
import Derived.Test.YtpmafabphlejeaaGreatValGZ
import Derived.Deep.CutRange
import Derived.Deep.DeepCutAuto
import Derived.Test.YtpmafabphlejeaaGreatValDZ
import Derived.Test.YtpmafabphlejeaaGreatOctBigZ
/-
  The contract of the document's own Check.
  Conditions: none but sizes.
-/
namespace Go.Proofs.YtpmafabphlejeaaGreat
open Go.RowKit
set_option linter.unusedVariables false
set_option linter.unusedSimpArgs false

set_option maxRecDepth 100000 in
set_option maxHeartbeats 4000000 in
theorem qcheck_any (t : Tree) (vs : List Value) (w : World) (h : ShowsT w t vs) :
    Calls Tryz.prog 124 #[.agg vs.toArray] w fun e w' => e = .returned (.int .i64 (checkT t)) ∧ Below w.heap.size w w' := by
  have HD := Lib.hid (fun w' (hw' : Below w.heap.size w w') => qdeep_any 6 t vs w' (h.kept hw' (Nat.le_refl _)) (by omega))
  have HL := Lib.hid (fun w' (hw' : Below w.heap.size w w') => qleft_any 200 t vs w' (h.kept hw' (Nat.le_refl _)) (by omega))
  have HM := Lib.hid (fun w' (hw' : Below w.heap.size w w') => may_any _ t vs w' rfl (h.kept hw' (Nat.le_refl _)))
  obtain ⟨k0, n0, s0, a3, n3, c3, a4, n4, c4, rfl⟩ := h.cells5
  have hX := BoxV.new (v0 := .int .u8 k0) (v1 := .int .u64 n0) (v2 := .string s0) (v3 := .slice a3 n3 c3) (v4 := .slice a4 n4 c4) w
  have hBX := below_boxV w (Obj.cells #[.int .u8 k0, .int .u64 n0, .string s0, .slice a3 n3 c3, .slice a4 n4 c4] 31)
  have HX := Lib.hid hX
  have HBX := Lib.hid hBX
  obtain ⟨R, hR⟩ : ∃ R, R = checkT t := ⟨_, rfl⟩
  rw [← hR]
  unfold checkT at hR
  have hc := remD_cases 200 (cntT t)
  clear h hX hBX
  generalize deepD 6 t = dp at *
  generalize validT t = vd at *
  generalize hrm : remD 200 (cntT t) = rm at *
  have HRM := Lib.hid hrm
  clear hrm
  generalize cntT t = cn at *
  cases dp with
  | true =>
    rw [if_pos rfl] at hR
    subst hR
    go_enter Tryz.func124, Tryz.ntmps124
    go_wp2_with fail
    refine (HD.out _ HBX.out).mono ?_
    rintro e w1 ⟨rfl, hb1⟩
    go_wp2_with fail
    go_ret
    exact ⟨rfl, HBX.out.trans (hb1.mono HBX.out.size)⟩
  | false =>
  rw [if_neg (by decide)] at hR
  by_cases hcn : 200 < cn
  · rw [if_pos hcn] at hR
    subst hR
    have hneg : rm < 0 := by omega
    have HC := Lib.hid hcn
    clear hc hcn
    go_enter Tryz.func124, Tryz.ntmps124
    go_wp2_with fail
    refine (HD.out _ HBX.out).mono ?_
    rintro e w1 ⟨rfl, hb1⟩
    have hB1 := HBX.out.trans (hb1.mono HBX.out.size)
    have hX1 := HX.out.kept hb1 (Nat.le_refl _)
    have x0 := hX1.c0
    have x1 := hX1.c1
    have x2 := hX1.c2
    have x3 := hX1.c3
    have x4 := hX1.c4
    go_wp2_with fail
    refine (HL.out _ hB1).mono ?_
    rintro e w2 ⟨rfl, hb2⟩
    go_wp2_with fail
    go_ret
    exact ⟨rfl, hB1.trans (hb2.mono hB1.size)⟩
  rw [if_neg hcn] at hR
  have hneg : ¬ rm < 0 := by omega
  have HC := Lib.hid hcn
  clear hc hcn
  cases vd with
  | false =>
    rw [if_pos rfl] at hR
    subst hR
    go_enter Tryz.func124, Tryz.ntmps124
    go_wp2_with fail
    refine (HD.out _ HBX.out).mono ?_
    rintro e w1 ⟨rfl, hb1⟩
    have hB1 := HBX.out.trans (hb1.mono HBX.out.size)
    have hX1 := HX.out.kept hb1 (Nat.le_refl _)
    have x0 := hX1.c0
    have x1 := hX1.c1
    have x2 := hX1.c2
    have x3 := hX1.c3
    have x4 := hX1.c4
    go_wp2_with fail
    refine (HL.out _ hB1).mono ?_
    rintro e w2 ⟨rfl, hb2⟩
    have hB2 := hB1.trans (hb2.mono hB1.size)
    have hX2 := hX1.kept hb2 (Nat.le_refl _)
    clear x0 x1 x2 x3 x4
    have x0 := hX2.c0
    have x1 := hX2.c1
    have x2 := hX2.c2
    have x3 := hX2.c3
    have x4 := hX2.c4
    go_wp2_with fail
    refine (HM.out _ hB2).mono ?_
    rintro e w3 ⟨rfl, hb3⟩
    go_wp2_with fail
    go_ret
    exact ⟨rfl, hB2.trans (hb3.mono hB2.size)⟩
  | true =>
    rw [if_neg (by decide)] at hR
    subst hR
    go_enter Tryz.func124, Tryz.ntmps124
    go_wp2_with fail
    refine (HD.out _ HBX.out).mono ?_
    rintro e w1 ⟨rfl, hb1⟩
    have hB1 := HBX.out.trans (hb1.mono HBX.out.size)
    have hX1 := HX.out.kept hb1 (Nat.le_refl _)
    have x0 := hX1.c0
    have x1 := hX1.c1
    have x2 := hX1.c2
    have x3 := hX1.c3
    have x4 := hX1.c4
    go_wp2_with fail
    refine (HL.out _ hB1).mono ?_
    rintro e w2 ⟨rfl, hb2⟩
    have hB2 := hB1.trans (hb2.mono hB1.size)
    have hX2 := hX1.kept hb2 (Nat.le_refl _)
    clear x0 x1 x2 x3 x4
    have x0 := hX2.c0
    have x1 := hX2.c1
    have x2 := hX2.c2
    have x3 := hX2.c3
    have x4 := hX2.c4
    go_wp2_with fail
    refine (HM.out _ hB2).mono ?_
    rintro e w3 ⟨rfl, hb3⟩
    go_wp2_with fail
    go_ret
    exact ⟨rfl, hB2.trans (hb3.mono hB2.size)⟩

end Go.Proofs.YtpmafabphlejeaaGreat
/-
  The contract of the document's own Bytes: of a value that may be.
  Conditions: none but sizes.
-/
namespace Go.Proofs.YtpmafabphlejeaaGreat
open Go.RowKit
set_option linter.unusedVariables false
set_option linter.unusedSimpArgs false

theorem be_one (n : Nat) : be 1 n = [UInt8.ofNat n] := by rw [be_cons]; simp [be]

set_option maxRecDepth 100000 in
set_option maxHeartbeats 8000000 in
theorem qbytes_any (N : Nat) : ∀ (t : Tree) (vs : List Value) (w : World), cntT t = N → ShowsT w t vs → validT t = true → cntT t ≤ 200 →
    Calls Tryz.prog 100 #[.agg vs.toArray] w (EncSaid t w) := by
  induction N using Nat.strongRecOn with
  | ind N ih =>
  intro t vs w hN h hv hc
  have IH := Lib.hid (fun j (hj : j < t.l.length) vs w' (hs : ShowsT w' (t.l[j]'hj) vs) => ih _ (by rw [← hN]; exact cnt_child t j hj) _ vs w' rfl hs (validT_child hv j hj) (by have := cnt_child t j hj; omega))
  have hhead := validT_head hv
  have hbe := bytesT_eq t
  have helen : (elemsB t).length ≤ 880000 := by
    have h1 := items_len t.ks (fun x hx => (keys_le hhead x hx).2) t.l 0 (by rw [validT_eq, Bool.and_eq_true] at hv; exact hv.2)
    rw [cntT_eq] at hc
    unfold elemsB
    rw [List.length_append, be_length]
    omega
  have hkl8 := keys_le hhead
  unfold EncSaid
  rw [hbe]
  obtain ⟨kv, A, c, d0, d1, cs, rfl, hk, hn, hks, hkl, hkz, hsz, hln, hlc, hcm, _⟩ := h.open
  obtain ⟨A3, c3, rfl⟩ := str_form hks
  have HSH := Lib.hid (fun w' (hw' : Below w.heap.size w w') j (hj : j < t.l.length) => (h.kept hw' (Nat.le_refl _)).child j hj)
  have HKS := Lib.hid (fun w' (hw' : Below w.heap.size w w') => hks.below' hw' (Nat.le_refl _))
  have hss : t.s.size ≤ (layD t.k).bytes := hhead.2.2.1
  have hnn : t.n ≤ (layD t.k).most := hhead.2.1
  obtain ⟨EB, hEB⟩ : ∃ EB, EB = elemsB t := ⟨_, rfl⟩
  rw [← hEB] at helen ⊢
  obtain ⟨nl, hnl⟩ : ∃ nl, nl = t.l.length := ⟨_, rfl⟩
  obtain ⟨nk, hnk⟩ : ∃ nk, nk = t.ks.length := ⟨_, rfl⟩
  obtain ⟨K, hK⟩ : ∃ K, K = t.k := ⟨_, rfl⟩
  obtain ⟨M, hM⟩ : ∃ M, M = t.n := ⟨_, rfl⟩
  obtain ⟨S, hS⟩ : ∃ S, S = t.s := ⟨_, rfl⟩
  simp only [← hnl, ← hnk, ← hK, ← hM, ← hS] at hk hn hkl hsz hln hlc hss hnn ⊢
  have HNL := Lib.hid hnl
  have HEB := Lib.hid hEB
  have HNK := Lib.hid hnk
  have hkn : knownD K = true := by rw [hK]; exact hhead.1
  have hrk := hhead.2.2.2.2.2
  unfold rightKeys at hrk
  rw [← hK, ← hnl] at hrk
  have HHK := Lib.hid hkl8
  obtain ⟨W1, hW1⟩ : ∃ W1, W1 = (w.alloc (Obj.cells #[.int .u8 K, .int .u64 M, .string S, .slice A3 nk c3, .slice A nl c] 31)).alloc (Obj.cells #[.int .u8 K] 5) := ⟨_, rfl⟩
  have hbW1 : Below w.heap.size w W1 := by rw [hW1]; exact (below_boxV _ _).alloc (by simp) _
  have hX1 : BoxV W1 w.heap.size (.int .u8 K) (.int .u64 M) (.string S) (.slice A3 nk c3) (.slice A nl c) := by rw [hW1]; exact (BoxV.new w).kept ((Below.refl _ _).alloc (Nat.le_refl _) _) (Nat.le_refl _)
  have hsz1 : W1.heap.size = w.heap.size + 1 + 1 := by rw [hW1]; simp
  have ho1 : Own 5 W1 (w.heap.size + 1) (.slice (some ⟨w.heap.size + 1, 0, none⟩) 1 1) (be 1 K) := by
    have := Own.lit (w := w.alloc (Obj.cells #[.int .u8 K, .int .u64 M, .string S, .slice A3 nk c3, .slice A nl c] 31)) (e := 5) (base := w.heap.size + 1) (cs := #[.int .u8 K]) [UInt8.ofNat K] (by simp [bs, u8c]; omega) (by simp [maxLen]) (by simp)
    rw [be_one, hW1]
    simpa using this
  have hbl1 : (be 1 K).length = 1 := be_length _ _
  have hle1 : w.heap.size + 2 ≤ W1.heap.size := by omega
  clear hsz1
  have HB1 := Lib.hid ho1.block
  have HBW1 := Lib.hid hbW1
  have HNUM := Lib.hid (fun k n w hk hn => number_any k n w hk hn)
  have x0 := hX1.c0
  have x1 := hX1.c1
  have x2 := hX1.c2
  have x4 := hX1.c4
  have HX1 := Lib.hid hX1
  clear ih hN h hv hhead hbe hks hkz hc hK hM hS hnk hnl hEB hX1 hbW1 hkl8
  unfold knownD at hkn
  have hkn := of_decide_eq_true hkn
  obtain ⟨BT, hBT⟩ : ∃ BT, BT = be 1 K ++ bodyB (layD K) M S EB := ⟨_, rfl⟩
  rw [← hBT]
  have HBT := Lib.hid hBT
  clear hBT
  have HHN := Lib.hid (And.intro hkn (And.intro hrk (And.intro hss hnn)))
  clear hkn hrk hss hnn
  go_enter Tryz.func100, Tryz.ntmps100
  go_upto_region 2 with fail
  rw [← hW1]
  have HW1 := Lib.hid hW1
  clear hW1
  obtain ⟨hkn, hrk, hss, hnn⟩ := HHN.out
  clear HHN
  rcases hkn with rfl | rfl | rfl | rfl | rfl | rfl | rfl | rfl | rfl
  · clear hrk hss hnn
    have hf : BT = be 1 240 := HBT.out.trans (List.append_nil _)
    have HF := Lib.hid hf
    clear hf
    go_wp2_with fail
    go_ret
    rw [HF.out]
    exact ⟨_, rfl, ho1.mono (by omega), HBW1.out⟩
  · have HF := Lib.hid (show BT = be 1 8 ++ [UInt8.ofNat M] from by rw [HBT.out, ← be_one M]; rfl)
    have hM8 : M < 256 := by have : (layD 8).most ≤ 255 := by decide
                             omega
    clear hrk hss hnn
    go_wp2_with (at_builtin
                 refine wpList_append8 _ rfl (.tmp 14) (.tmp 18) 133 rfl (w.heap.size + 1) 5 Tryz.underlying133 info5 (.slice (some ⟨w.heap.size + 1, 0, none⟩) 1 1) _ rfl (ho1.alloc_ _) W1.heap.size (.slice (some ⟨W1.heap.size, 0, none⟩) 1 1) [UInt8.ofNat M] rfl (Shows.lit (w := W1) [UInt8.ofNat M] (by simp [bs, u8c]; omega) (by simp [maxLen])) (by simp; omega) (by simp; omega) ?_
                 intro v2 w2 ho2 hg2)
    go_ret
    rw [HF.out]
    exact ⟨_, rfl, ho2.mono (by omega), (HBW1.out.alloc HBW1.out.size _).grown hg2 (by simp; omega) (fun k hk => by have := (HB1.out k hk).1; omega)⟩
  · have HF := Lib.hid (show BT = be 1 2 ++ [UInt8.ofNat M] from by rw [HBT.out, ← be_one M]; rfl)
    have hM8 : M < 256 := by have : (layD 2).most ≤ 255 := by decide
                             omega
    clear hrk hss hnn
    go_wp2_with (at_builtin
                 refine wpList_append8 _ rfl (.tmp 14) (.tmp 18) 133 rfl (w.heap.size + 1) 5 Tryz.underlying133 info5 (.slice (some ⟨w.heap.size + 1, 0, none⟩) 1 1) _ rfl (ho1.alloc_ _) W1.heap.size (.slice (some ⟨W1.heap.size, 0, none⟩) 1 1) [UInt8.ofNat M] rfl (Shows.lit (w := W1) [UInt8.ofNat M] (by simp [bs, u8c]; omega) (by simp [maxLen])) (by simp; omega) (by simp; omega) ?_
                 intro v2 w2 ho2 hg2)
    go_ret
    rw [HF.out]
    exact ⟨_, rfl, ho2.mono (by omega), (HBW1.out.alloc HBW1.out.size _).grown hg2 (by simp; omega) (fun k hk => by have := (HB1.out k hk).1; omega)⟩
  · have HF := Lib.hid (show BT = be 1 50 ++ be 8 M from HBT.out)
    clear hrk hss hnn
    go_wp2_with fail
    refine (HNUM.out 8 M _ (by omega) hn).mono ?_
    rintro e w2 ⟨v2, rfl, ho2, hb2⟩
    obtain ⟨g2, _, hs2⟩ := ho2.shows
    have ho1' : Own 5 w2 (w.heap.size + 1) _ _ := ho1.keep fun g hg => hb2.block g (HB1.out g hg).2
    have hbw2 := HBW1.out.trans (hb2.mono HBW1.out.size)
    have hz2 := hb2.size
    have hl8 : (be 8 M).length = 8 := be_length _ _
    go_wp2_with (at_builtin
                 refine wpList_append8 _ rfl (.tmp 23) (.tmp 26) 133 rfl (w.heap.size + 1) 5 Tryz.underlying133 info5 (.slice (some ⟨w.heap.size + 1, 0, none⟩) 1 1) _ rfl ho1' g2 v2 (be 8 M) rfl hs2 (by omega) (by omega) ?_
                 intro v3 w3 ho3 hg3)
    go_ret
    rw [HF.out]
    exact ⟨_, rfl, ho3.mono (by omega), hbw2.grown hg3 (by omega) (fun k hk => by have := (HB1.out k hk).1; omega)⟩
  · have HF := Lib.hid (show BT = be 1 49 ++ be 8 M from HBT.out)
    clear hrk hss hnn
    go_wp2_with fail
    refine (HNUM.out 8 M _ (by omega) hn).mono ?_
    rintro e w2 ⟨v2, rfl, ho2, hb2⟩
    obtain ⟨g2, _, hs2⟩ := ho2.shows
    have ho1' : Own 5 w2 (w.heap.size + 1) _ _ := ho1.keep fun g hg => hb2.block g (HB1.out g hg).2
    have hbw2 := HBW1.out.trans (hb2.mono HBW1.out.size)
    have hz2 := hb2.size
    have hl8 : (be 8 M).length = 8 := be_length _ _
    go_wp2_with (at_builtin
                 refine wpList_append8 _ rfl (.tmp 23) (.tmp 26) 133 rfl (w.heap.size + 1) 5 Tryz.underlying133 info5 (.slice (some ⟨w.heap.size + 1, 0, none⟩) 1 1) _ rfl ho1' g2 v2 (be 8 M) rfl hs2 (by omega) (by omega) ?_
                 intro v3 w3 ho3 hg3)
    go_ret
    rw [HF.out]
    exact ⟨_, rfl, ho3.mono (by omega), hbw2.grown hg3 (by omega) (fun k hk => by have := (HB1.out k hk).1; omega)⟩
  · have HF := Lib.hid (show BT = be 1 149 ++ be 2 S.size ++ sb S from by rw [HBT.out, List.append_assoc]; rfl)
    have hS4 : S.size ≤ 4096 := hss
    clear hrk hss hnn
    have hu64 : IntKind.u64.wrap (S.size : Int) = (S.size : Int) := by rw [IntKind.wrap_u64]; omega
    go_wp2_with fail
    refine (HNUM.out 2 S.size _ (by omega) (by omega)).mono ?_
    rintro e w2 ⟨v2, rfl, ho2, hb2⟩
    obtain ⟨g2, _, hs2⟩ := ho2.shows
    have ho1' : Own 5 w2 (w.heap.size + 1) _ _ := ho1.keep fun g hg => hb2.block g (HB1.out g hg).2
    have hX2 := HX1.out.kept hb2 (Nat.le_refl _)
    have hbw2 := HBW1.out.trans (hb2.mono HBW1.out.size)
    have hz2 := hb2.size
    have hl8 : (be 2 S.size).length = 2 := be_length _ _
    go_wp2_with (first
      | (at_builtin
         refine wpList_append8 _ rfl (.tmp 30) (.tmp 35) 133 rfl (w.heap.size + 1) 5 Tryz.underlying133 info5 (.slice (some ⟨w.heap.size + 1, 0, none⟩) 1 1) _ rfl ho1' g2 v2 (be 2 S.size) rfl hs2 (by omega) (by omega) ?_
         intro v3 w3 ho3 hg3
         have hbw3 : Below w.heap.size w w3 := hbw2.grown hg3 (by omega) (fun k hk => by have := (HB1.out k hk).1; omega)
         have hX3 : BoxV w3 w.heap.size (.int .u8 ((149 : Nat) : Int)) (.int .u64 M) (.string S) (.slice A3 nk c3) (.slice A nl c) := (hg3.block _ hX2.lt (fun hk => by have := (HB1.out _ hk.symm).1; omega)).trans hX2
         have hz3 := hg3.size
         have HB3 := Lib.hid ho3.block
         have y2 := hX3.c2)
      | (at_builtin
         refine wpList_append8s _ rfl (.tmp 37) (.tmp 39) 133 9 rfl (w.heap.size + 1) 5 Tryz.underlying133 Tryz.underlying9 info5 v3 _ rfl ho3 S rfl (by rw [List.length_append]; omega) (by omega) ?_
         intro v4 w4 ho4 hg4))
    go_ret
    rw [HF.out]
    exact ⟨_, rfl, ho4.mono (by omega), hbw3.grown hg4 (by omega) (fun k hk => by have := (HB3.out k hk).1; omega)⟩
  · have HF := Lib.hid (show BT = be 1 160 ++ be 4 S.size ++ sb S from by rw [HBT.out, List.append_assoc]; rfl)
    have hS4 : S.size ≤ 4096 := hss
    clear hrk hss hnn
    have hu64 : IntKind.u64.wrap (S.size : Int) = (S.size : Int) := by rw [IntKind.wrap_u64]; omega
    go_wp2_with fail
    refine (HNUM.out 4 S.size _ (by omega) (by omega)).mono ?_
    rintro e w2 ⟨v2, rfl, ho2, hb2⟩
    obtain ⟨g2, _, hs2⟩ := ho2.shows
    have ho1' : Own 5 w2 (w.heap.size + 1) _ _ := ho1.keep fun g hg => hb2.block g (HB1.out g hg).2
    have hX2 := HX1.out.kept hb2 (Nat.le_refl _)
    have hbw2 := HBW1.out.trans (hb2.mono HBW1.out.size)
    have hz2 := hb2.size
    have hl8 : (be 4 S.size).length = 4 := be_length _ _
    go_wp2_with (first
      | (at_builtin
         refine wpList_append8 _ rfl (.tmp 43) (.tmp 48) 133 rfl (w.heap.size + 1) 5 Tryz.underlying133 info5 (.slice (some ⟨w.heap.size + 1, 0, none⟩) 1 1) _ rfl ho1' g2 v2 (be 4 S.size) rfl hs2 (by omega) (by omega) ?_
         intro v3 w3 ho3 hg3
         have hbw3 : Below w.heap.size w w3 := hbw2.grown hg3 (by omega) (fun k hk => by have := (HB1.out k hk).1; omega)
         have hX3 : BoxV w3 w.heap.size (.int .u8 ((160 : Nat) : Int)) (.int .u64 M) (.string S) (.slice A3 nk c3) (.slice A nl c) := (hg3.block _ hX2.lt (fun hk => by have := (HB1.out _ hk.symm).1; omega)).trans hX2
         have hz3 := hg3.size
         have HB3 := Lib.hid ho3.block
         have y2 := hX3.c2)
      | (at_builtin
         refine wpList_append8s _ rfl (.tmp 50) (.tmp 52) 133 9 rfl (w.heap.size + 1) 5 Tryz.underlying133 Tryz.underlying9 info5 v3 _ rfl ho3 S rfl (by rw [List.length_append]; omega) (by omega) ?_
         intro v4 w4 ho4 hg4))
    go_ret
    rw [HF.out]
    exact ⟨_, rfl, ho4.mono (by omega), hbw3.grown hg4 (by omega) (fun k hk => by have := (HB3.out k hk).1; omega)⟩
  · have HF := Lib.hid (show BT = be 1 169 ++ be 4 EB.length ++ EB from by rw [HBT.out, List.append_assoc]; rfl)
    rw [if_neg (by decide)] at hrk
    have hks0 := hrk
    have heb : EB = be 4 nl ++ itemsB t.ks 0 t.l := by rw [HEB.out, HNL.out]; rfl
    have hpre : ∀ j, (be 4 nl ++ itemsB t.ks 0 (t.l.take j)).length ≤ 880000 := fun j => by
      have h1 := items_take_le t.ks t.l 0 j
      rw [heb, List.length_append] at helen
      rw [List.length_append]
      omega
    have hst : ∀ j (hj : j < t.l.length), be 4 nl ++ itemsB t.ks 0 (t.l.take (j + 1)) = be 4 nl ++ itemsB t.ks 0 (t.l.take j) ++ bytesT t.l[j] := fun j hj => by
      rw [items_snoc t.ks t.l 0 j hj, Nat.zero_add]
      rw [hks0]; simp [keyOf8]
    have hfull : be 4 nl ++ itemsB t.ks 0 (t.l.take nl) = EB := by rw [heb, HNL.out, List.take_length]
    have HPRE := Lib.hid hpre
    have HST := Lib.hid hst
    have HFULL := Lib.hid hfull
    have hu64 : IntKind.u64.wrap (nl : Int) = (nl : Int) := by rw [IntKind.wrap_u64]; omega
    have hu64b : IntKind.u64.wrap (EB.length : Int) = (EB.length : Int) := by rw [IntKind.wrap_u64]; omega
    clear hrk hss hnn heb hpre hst hfull hks0
    go_wp2_with fail
    refine (HNUM.out 4 nl _ (by omega) (by omega)).mono ?_
    rintro e w2 ⟨v2, rfl, ho2, hb2⟩
    have ho1' : Own 5 w2 (w.heap.size + 1) _ _ := ho1.keep fun g hg => hb2.block g (HB1.out g hg).2
    have hX2 := HX1.out.kept hb2 (Nat.le_refl _)
    have hbw2 := HBW1.out.trans (hb2.mono HBW1.out.size)
    have ho2' : Own 5 w2 (w.heap.size + 2) v2 (be 4 nl) := ho2.mono hle1
    clear x0 x1 x2 x4 ho1 ho2 hb2
    go_wp2_with fail
    go_loopw [4, 5] (fun inn i wr => ∃ j : Nat, j ≤ nl ∧ i = .int .i64 j ∧ Own 5 wr (w.heap.size + 2) inn (be 4 nl ++ itemsB t.ks 0 (t.l.take j)) ∧ Own 5 wr (w.heap.size + 1) (.slice (some ⟨w.heap.size + 1, 0, none⟩) 1 1) (be 1 169) ∧ BoxV wr w.heap.size (.int .u8 ((169 : Nat) : Int)) (.int .u64 M) (.string S) (.slice A3 nk c3) (.slice A nl c) ∧ Below w.heap.size w wr) (fun _ i _ => nl - (intOf i).toNat)
    case atStart => exact ⟨0, by omega, rfl, by simpa [itemsB] using ho2', ho1', hX2, hbw2⟩
    case round =>
      obtain ⟨j, hj, rfl, ho, hob, hX, hb⟩ := hrel
      rename World => wj
      have x0 := hX.c0
      have x3 := hX.c3
      have x4 := hX.c4
      have hXlt := hX.lt
      have hszj := hb.size
      have HOB := Lib.hid ho.block
      have hbown : wj.heap.size > w.heap.size + 1 := (hob.block (w.heap.size + 1) rfl).2
      by_cases hlt : j < nl
      · have hlt' : j < t.l.length := by rw [← HNL.out]; exact hlt
        obtain ⟨d, o, v0, v1, v2, v3, v4, rfl, hd, hch, e0, e1, e2, e3, e4⟩ := HSH.out wj hb j hlt'
        have hjl : (j : Int) < (nl : Int) := by omega

        have hst := HST.out j hlt'
        have hp0 := HPRE.out j
        have hp1 := HPRE.out (j + 1)
        have hc := IH.out j hlt'
        generalize hBC : bytesT (t.l[j]'hlt') = BC at *
        have hc : ∀ vs w', ShowsT w' (t.l[j]'hlt') vs → Calls Tryz.prog 100 #[.agg vs.toArray] w' fun e w'' => ∃ v, e = .returned v ∧ Own 5 w'' w'.heap.size v BC ∧ Below w'.heap.size w' w'' := fun vs w' hs => by rw [← hBC]; exact hc vs w' hs
        have HC := Lib.hid hc
        have HBC := Lib.hid hBC
        have HCH := Lib.hid hch
        obtain ⟨P, hP⟩ : ∃ P, P = be 4 nl ++ itemsB t.ks 0 (t.l.take j) := ⟨_, rfl⟩
        obtain ⟨Q, hQ⟩ : ∃ Q, Q = be 4 nl ++ itemsB t.ks 0 (t.l.take (j + 1)) := ⟨_, rfl⟩
        rw [← hP] at ho hp0 hst
        rw [← hQ] at hp1 hst
        have HQ := Lib.hid hQ
        have HST2 := Lib.hid hst
        have hql : Q.length = P.length + BC.length := by rw [hst]; simp only [List.length_append]
        clear hc hBC hch hP hQ hst
        go_wp2_with fail
        refine (HC.out _ _ HCH.out).mono ?_
        rintro e w7 ⟨v7, rfl, ho7, hb7⟩
        obtain ⟨g7, _, hs7⟩ := ho7.shows
        have ho' : Own 5 w7 (w.heap.size + 2) u4 P := ho.keep fun q hq => hb7.block q (HOB.out q hq).2
        have hX7 := hX.kept hb7 (Nat.le_refl _)
        have hob7 : Own 5 w7 (w.heap.size + 1) (.slice (some ⟨w.heap.size + 1, 0, none⟩) 1 1) (be 1 169) := hob.keep fun q hq => hb7.block q (hob.block q hq).2
        have hbw7 := hb.trans (hb7.mono hszj)
        have hsz7 := hb7.size
        go_wp2_with (at_builtin
                     refine wpList_append8 _ rfl (.tmp 89) (.tmp 95) 133 rfl (w.heap.size + 2) 5 Tryz.underlying133 info5 u4 P rfl ho' g7 v7 BC rfl hs7 (by omega) (by omega) ?_
                     intro v8 w8 ho8 hg8)
        go_roundw
        case rel =>
          refine ⟨j + 1, by omega, by go_num, by rw [← HQ.out, HST2.out]; exact ho8, ?_, ?_, hbw7.grown hg8 (by omega) (fun q hq => by have := (HOB.out q hq).1; omega)⟩
          · exact hob7.keep fun q hq => hg8.block q (hob7.block q hq).2 (fun e => by have := (HOB.out q e.symm).1; simp [Value.ownBlock] at hq; omega)
          · exact (hg8.block _ hX7.lt (fun e => by have := (HOB.out _ e.symm).1; omega)).trans hX7
        case measure => simp [intOf]; omega
      · have hjl : ¬ (j : Int) < (nl : Int) := by omega
        obtain rfl : j = nl := by omega
        rw [HFULL.out] at ho
        obtain ⟨A9, c9, rfl, hlc9, hcm9⟩ := ho.form
        go_wp2_with fail
        refine (HNUM.out 4 EB.length _ (by omega) (by omega)).mono ?_
        rintro e w7 ⟨v7, rfl, ho7, hb7⟩
        obtain ⟨g7, _, hs7⟩ := ho7.shows
        have ho' : Own 5 w7 (w.heap.size + 2) (.slice A9 EB.length c9) EB := ho.keep fun q hq => hb7.block q (HOB.out q hq).2
        have hob7 : Own 5 w7 (w.heap.size + 1) (.slice (some ⟨w.heap.size + 1, 0, none⟩) 1 1) (be 1 169) := hob.keep fun q hq => hb7.block q (hob.block q hq).2
        have hbw7 := hb.trans (hb7.mono hszj)
        have hsz7 := hb7.size
        have hl4 : (be 4 EB.length).length = 4 := be_length _ _
        have HOB7 := Lib.hid hob7.block
        obtain ⟨g9, hg90, hs9⟩ := ho'.shows
        go_wp2_with (first
          | (at_builtin
             refine wpList_append8 _ rfl (.tmp 97) (.tmp 101) 133 rfl (w.heap.size + 1) 5 Tryz.underlying133 info5 (.slice (some ⟨w.heap.size + 1, 0, none⟩) 1 1) _ rfl hob7 g7 v7 _ rfl hs7 (by omega) (by omega) ?_
             intro v8 w8 ho8 hg8
             have hb8 : Below w.heap.size w w8 := hbw7.grown hg8 (by omega) (fun q hq => by have := (HOB7.out q hq).1; omega)
             have hs98 : Shows w8 g9 (.slice A9 EB.length c9) EB := hs9.keep hg8.size (fun hp => hg8.block g9 (hs9.lt hp) (fun e => by simp [Value.ownBlock] at e; have := hg90 hp; omega))
             have HOB8 := Lib.hid ho8.block
             have hsz8 := hg8.size)
          | (at_builtin
             refine wpList_append8 _ rfl (.tmp 103) (.tmp 104) 133 rfl (w.heap.size + 1) 5 Tryz.underlying133 info5 v8 _ rfl ho8 g9 (.slice A9 EB.length c9) EB rfl hs98 (by rw [List.length_append]; omega) (by omega) ?_
             intro v10 w10 ho10 hg10))
        go_ret
        rw [HF.out]
        exact ⟨_, rfl, ho10.mono (by omega), hb8.grown hg10 (by omega) (fun q hq => by have := (HOB8.out q hq).1; omega)⟩
  · have HF := Lib.hid (show BT = be 1 168 ++ be 4 EB.length ++ EB from by rw [HBT.out, List.append_assoc]; rfl)
    rw [if_pos (by rfl)] at hrk
    have hnkl : nk = nl := by rw [HNK.out]; exact hrk.1
    subst hnkl
    have heb : EB = be 4 nk ++ itemsB t.ks 0 t.l := by rw [HEB.out, HNL.out]; rfl
    have hpre : ∀ j, (be 4 nk ++ itemsB t.ks 0 (t.l.take j)).length ≤ 880000 := fun j => by
      have h1 := items_take_le t.ks t.l 0 j
      rw [heb, List.length_append] at helen
      rw [List.length_append]
      omega
    have hst : ∀ j (hj : j < t.l.length) (hjk : j < t.ks.length), be 4 nk ++ itemsB t.ks 0 (t.l.take (j + 1)) = be 4 nk ++ itemsB t.ks 0 (t.l.take j) ++ (be 1 (t.ks[j]'hjk).size) ++ sb (t.ks[j]'hjk) ++ bytesT t.l[j] := fun j hj hjk => by
      rw [items_snoc t.ks t.l 0 j hj, Nat.zero_add]
      rw [keyOf8_get t.ks j hjk]; simp only [List.append_assoc]
    have hfull : be 4 nk ++ itemsB t.ks 0 (t.l.take nk) = EB := by rw [heb, HNL.out, List.take_length]
    have HPRE := Lib.hid hpre
    have HST := Lib.hid hst
    have HFULL := Lib.hid hfull
    have hu64 : IntKind.u64.wrap (nk : Int) = (nk : Int) := by rw [IntKind.wrap_u64]; omega
    have hu64b : IntKind.u64.wrap (EB.length : Int) = (EB.length : Int) := by rw [IntKind.wrap_u64]; omega
    clear hrk hss hnn heb hpre hst hfull
    go_wp2_with fail
    refine (HNUM.out 4 nk _ (by omega) (by omega)).mono ?_
    rintro e w2 ⟨v2, rfl, ho2, hb2⟩
    have ho1' : Own 5 w2 (w.heap.size + 1) _ _ := ho1.keep fun g hg => hb2.block g (HB1.out g hg).2
    have hX2 := HX1.out.kept hb2 (Nat.le_refl _)
    have hbw2 := HBW1.out.trans (hb2.mono HBW1.out.size)
    have ho2' : Own 5 w2 (w.heap.size + 2) v2 (be 4 nk) := ho2.mono hle1
    clear x0 x1 x2 x4 ho1 ho2 hb2
    go_wp2_with fail
    go_loopw [4, 5] (fun inn i wr => ∃ j : Nat, j ≤ nk ∧ i = .int .i64 j ∧ Own 5 wr (w.heap.size + 2) inn (be 4 nk ++ itemsB t.ks 0 (t.l.take j)) ∧ Own 5 wr (w.heap.size + 1) (.slice (some ⟨w.heap.size + 1, 0, none⟩) 1 1) (be 1 168) ∧ BoxV wr w.heap.size (.int .u8 ((168 : Nat) : Int)) (.int .u64 M) (.string S) (.slice A3 nk c3) (.slice A nk c) ∧ Below w.heap.size w wr) (fun _ i _ => nk - (intOf i).toNat)
    case atStart => exact ⟨0, by omega, rfl, by simpa [itemsB] using ho2', ho1', hX2, hbw2⟩
    case round =>
      obtain ⟨j, hj, rfl, ho, hob, hX, hb⟩ := hrel
      rename World => wj
      have x0 := hX.c0
      have x3 := hX.c3
      have x4 := hX.c4
      have hXlt := hX.lt
      have hszj := hb.size
      have HOB := Lib.hid ho.block
      have hbown : wj.heap.size > w.heap.size + 1 := (hob.block (w.heap.size + 1) rfl).2
      by_cases hlt : j < nk
      · have hlt' : j < t.l.length := by rw [← HNL.out]; exact hlt
        obtain ⟨d, o, v0, v1, v2, v3, v4, rfl, hd, hch, a0, a1, a2, a3, a4⟩ := HSH.out w (Below.refl _ _) j hlt'
        have hjl : (j : Int) < (nk : Int) := by omega
        have hltk : j < t.ks.length := by rw [← HNK.out]; exact hlt
        have hst := HST.out j hlt' hltk
        have hp0 := HPRE.out j
        have hp1 := HPRE.out (j + 1)
        obtain ⟨o3, c3', hA3, hcell⟩ := str_cell (HKS.out wj hb) j hltk
        have hnk' := HNK.out
        simp only [← hnk', Value.slice.injEq, true_and] at hA3
        obtain ⟨rfl, rfl⟩ := hA3
        have hcells : ∀ w', Below w.heap.size w w' → w'.cell? ⟨d0, o3 + j, none⟩ = some (.string (t.ks[j]'hltk)) := fun w' hw' => by
          obtain ⟨o4, c4', hA4, hcell4⟩ := str_cell (HKS.out w' hw') j hltk
          simp only [Value.slice.injEq, Option.some.injEq, Addr.mk.injEq, true_and, and_true] at hA4
          rw [hA4.1]
          exact hcell4
        have hd0 := hcells wj hb
        have hk255 := (HHK.out _ (List.getElem_mem hltk)).2
        clear hcell hnk'
        generalize t.ks[j]'hltk = kx at *
        have HCELLS := Lib.hid hcells
        have hw8 : IntKind.u8.wrap (kx.size : Int) = (kx.size : Int) := by rw [IntKind.wrap_u8]; omega
        clear hcells
        have hc := IH.out j hlt'
        generalize hBC : bytesT (t.l[j]'hlt') = BC at *
        have hc : ∀ vs w', ShowsT w' (t.l[j]'hlt') vs → Calls Tryz.prog 100 #[.agg vs.toArray] w' fun e w'' => ∃ v, e = .returned v ∧ Own 5 w'' w'.heap.size v BC ∧ Below w'.heap.size w' w'' := fun vs w' hs => by rw [← hBC]; exact hc vs w' hs
        have HC := Lib.hid hc
        have HBC := Lib.hid hBC
        have HCH := Lib.hid hch
        obtain ⟨P, hP⟩ : ∃ P, P = be 4 nk ++ itemsB t.ks 0 (t.l.take j) := ⟨_, rfl⟩
        obtain ⟨Q, hQ⟩ : ∃ Q, Q = be 4 nk ++ itemsB t.ks 0 (t.l.take (j + 1)) := ⟨_, rfl⟩
        rw [← hP] at ho hp0 hst
        rw [← hQ] at hp1 hst
        have HQ := Lib.hid hQ
        have HST2 := Lib.hid hst
        have hql : Q.length = P.length + 1 + kx.size + BC.length := by rw [hst]; simp only [List.length_append, be_length, sb_length]
        clear hc hBC hch hP hQ hst
        go_wp2_with (first
          | (at_builtin
             refine wpList_append8 _ rfl (.tmp 72) (.tmp 80) 133 rfl (w.heap.size + 2) 5 Tryz.underlying133 info5 u4 P rfl (ho.alloc_ _) wj.heap.size (.slice (some ⟨wj.heap.size, 0, none⟩) 1 1) [UInt8.ofNat kx.size] rfl (Shows.lit (w := wj) [UInt8.ofNat kx.size] (by simp [bs, u8c]; omega) (by simp [maxLen])) (by simp; omega) (by simp; omega) ?_
             intro v5 w5 ho5 hg5
             have hbA : Below wj.heap.size wj (wj.alloc (Obj.cells #[.int .u8 kx.size] 5)) := (Below.refl _ _).alloc (Nat.le_refl _) _
             have hkeep5 : ∀ q, q < wj.heap.size → u4.ownBlock ≠ some q → w5.heap[q]? = wj.heap[q]? := fun q hq hne => (hg5.block q (by simp; omega) (fun e => hne e.symm)).trans (hbA.block q hq)
             have hX5 : BoxV w5 w.heap.size (.int .u8 ((168 : Nat) : Int)) (.int .u64 M) (.string S) (.slice (some ⟨d0, o3, none⟩) nk c3) (.slice (some ⟨d, o, none⟩) nk c) := (hkeep5 _ hXlt (fun hk => by have := (HOB.out _ hk).1; omega)).trans hX
             have hob5 : Own 5 w5 (w.heap.size + 1) (.slice (some ⟨w.heap.size + 1, 0, none⟩) 1 1) (be 1 168) := hob.keep fun q hq => hkeep5 q (hob.block q hq).2 (fun e => by have := (HOB.out _ e).1; simp [Value.ownBlock] at hq; omega)
             have hb5 : Below w.heap.size w w5 := (hb.trans (hbA.mono hszj)).grown hg5 (by simp; omega) (fun q hq => by have := (HOB.out q hq).1; omega)
             have y3 := hX5.c3
             have hd5 := HCELLS.out w5 hb5
             have HOB5 := Lib.hid ho5.block
             have hsz5 := hg5.size
             have hszA : (wj.alloc (Obj.cells #[.int .u8 kx.size] 5)).heap.size = wj.heap.size + 1 := by simp)
          | (at_builtin
             refine wpList_append8s _ rfl (.tmp 82) (.tmp 87) 133 9 rfl (w.heap.size + 2) 5 Tryz.underlying133 Tryz.underlying9 info5 v5 _ rfl ho5 kx rfl (by simp; omega) (by omega) ?_
             intro v6 w6 ho6 hg6
             have hb6 : Below w.heap.size w w6 := hb5.grown hg6 (by omega) (fun q hq => by have := (HOB5.out q hq).1; omega)
             have hX6 : BoxV w6 w.heap.size (.int .u8 ((168 : Nat) : Int)) (.int .u64 M) (.string S) (.slice (some ⟨d0, o3, none⟩) nk c3) (.slice (some ⟨d, o, none⟩) nk c) := (hg6.block _ hX5.lt (fun hk => by have := (HOB5.out _ hk.symm).1; omega)).trans hX5
             have hob6 : Own 5 w6 (w.heap.size + 1) (.slice (some ⟨w.heap.size + 1, 0, none⟩) 1 1) (be 1 168) := hob5.keep fun q hq => hg6.block q (hob5.block q hq).2 (fun e => by have := (HOB5.out _ e.symm).1; simp [Value.ownBlock] at hq; omega)
             have z4 := hX6.c4
             have e0 := cell_kept a0 hb6 (Nat.le_refl _) hd
             have e1 := cell_kept a1 hb6 (Nat.le_refl _) hd
             have e2 := cell_kept a2 hb6 (Nat.le_refl _) hd
             have e3 := cell_kept a3 hb6 (Nat.le_refl _) hd
             have e4 := cell_kept a4 hb6 (Nat.le_refl _) hd))
        refine (HC.out _ _ (HCH.out.kept hb6 (Nat.le_refl _))).mono ?_
        rintro e w7 ⟨v7, rfl, ho7, hb7⟩
        obtain ⟨g7, _, hs7⟩ := ho7.shows
        have HOB6 := Lib.hid ho6.block
        have hsz6 := hb6.size
        have hlt6 := hX6.lt
        have ho' := ho6.keep (w' := w7) fun q hq => hb7.block q (HOB6.out q hq).2
        have hX7 := hX6.kept hb7 (Nat.le_refl _)
        have hob7 : Own 5 w7 (w.heap.size + 1) (.slice (some ⟨w.heap.size + 1, 0, none⟩) 1 1) (be 1 168) := hob6.keep fun q hq => hb7.block q (hob6.block q hq).2
        have hbw7 := hb6.trans (hb7.mono hsz6)
        have hsz7 := hb7.size
        have hsz8 := hg6.size
        go_wp2_with (at_builtin
                     refine wpList_append8 _ rfl (.tmp 89) (.tmp 95) 133 rfl (w.heap.size + 2) 5 Tryz.underlying133 info5 v6 _ rfl ho' g7 v7 BC rfl hs7 (by simp only [List.length_append, List.length_singleton, sb_length]; omega) (by omega) ?_
                     intro v8 w8 ho8 hg8)
        go_roundw
        case rel =>
          refine ⟨j + 1, by omega, by go_num, by rw [← HQ.out, HST2.out, be_one]; exact ho8, ?_, ?_, hbw7.grown hg8 (by omega) (fun q hq => by have := (HOB6.out q hq).1; omega)⟩
          · exact hob7.keep fun q hq => hg8.block q (hob7.block q hq).2 (fun e => by have := (HOB6.out q e.symm).1; simp [Value.ownBlock] at hq; omega)
          · exact (hg8.block _ hX7.lt (fun e => by have := (HOB6.out _ e.symm).1; omega)).trans hX7
        case measure => simp [intOf]; omega
      · have hjl : ¬ (j : Int) < (nk : Int) := by omega
        obtain rfl : j = nk := by omega
        rw [HFULL.out] at ho
        obtain ⟨A9, c9, rfl, hlc9, hcm9⟩ := ho.form
        go_wp2_with fail
        refine (HNUM.out 4 EB.length _ (by omega) (by omega)).mono ?_
        rintro e w7 ⟨v7, rfl, ho7, hb7⟩
        obtain ⟨g7, _, hs7⟩ := ho7.shows
        have ho' : Own 5 w7 (w.heap.size + 2) (.slice A9 EB.length c9) EB := ho.keep fun q hq => hb7.block q (HOB.out q hq).2
        have hob7 : Own 5 w7 (w.heap.size + 1) (.slice (some ⟨w.heap.size + 1, 0, none⟩) 1 1) (be 1 168) := hob.keep fun q hq => hb7.block q (hob.block q hq).2
        have hbw7 := hb.trans (hb7.mono hszj)
        have hsz7 := hb7.size
        have hl4 : (be 4 EB.length).length = 4 := be_length _ _
        have HOB7 := Lib.hid hob7.block
        obtain ⟨g9, hg90, hs9⟩ := ho'.shows
        go_wp2_with (first
          | (at_builtin
             refine wpList_append8 _ rfl (.tmp 97) (.tmp 101) 133 rfl (w.heap.size + 1) 5 Tryz.underlying133 info5 (.slice (some ⟨w.heap.size + 1, 0, none⟩) 1 1) _ rfl hob7 g7 v7 _ rfl hs7 (by omega) (by omega) ?_
             intro v8 w8 ho8 hg8
             have hb8 : Below w.heap.size w w8 := hbw7.grown hg8 (by omega) (fun q hq => by have := (HOB7.out q hq).1; omega)
             have hs98 : Shows w8 g9 (.slice A9 EB.length c9) EB := hs9.keep hg8.size (fun hp => hg8.block g9 (hs9.lt hp) (fun e => by simp [Value.ownBlock] at e; have := hg90 hp; omega))
             have HOB8 := Lib.hid ho8.block
             have hsz8 := hg8.size)
          | (at_builtin
             refine wpList_append8 _ rfl (.tmp 103) (.tmp 104) 133 rfl (w.heap.size + 1) 5 Tryz.underlying133 info5 v8 _ rfl ho8 g9 (.slice A9 EB.length c9) EB rfl hs98 (by rw [List.length_append]; omega) (by omega) ?_
             intro v10 w10 ho10 hg10))
        go_ret
        rw [HF.out]
        exact ⟨_, rfl, ho10.mono (by omega), hb8.grown hg10 (by omega) (fun q hq => by have := (HOB8.out q hq).1; omega)⟩

end Go.Proofs.YtpmafabphlejeaaGreat
