/-
  Texts, together: Vl8, Vl2, Vl49, Vl50, Vl149, Vl160.
  Conditions: none but sizes.
-/
import Derived.Deep.RegionHeld3
import Derived.Test.YtdklhcmoilcpgaaGreatVgAZ
set_option linter.unusedVariables false
set_option linter.unusedSimpArgs false
namespace Go.Proofs.YtdklhcmoilcpgaaGreat
open Go.RowKit
set_option maxRecDepth 100000 in
set_option maxHeartbeats 16000000 in
theorem read_leaf8 (D n g d : Nat) (s : St) (w : World) (hQ : QS w g d s) (hdg : d ≤ g) (hs : lenS s ≤ 40000) (hD : D ≤ 6) (hn : n < 200) (hkk : (numS 1 s).1 = 8) :
  Calls Tryz.prog 111 #[.pointer (some ⟨g, 0, none⟩), .int .i64 D, .int .i64 ((n + 1 : Nat) : Int)] w (ReadSaid g d w (if (numS 1 s).1 = 8 ∨ (numS 1 s).1 = 2 then finP (.node (numS 1 s).1 (numS 1 (numS 1 s).2).1 ⟨#[]⟩ [] []) n (numS 1 (numS 1 s).2).2 else if (numS 1 s).1 = 49 ∨ (numS 1 s).1 = 50 then finP (.node (numS 1 s).1 (numS 8 (numS 1 s).2).1 ⟨#[]⟩ [] []) n (numS 8 (numS 1 s).2).2 else if (numS 1 s).1 = 149 then finP (.node (numS 1 s).1 0 (str8 (textS 2 4096 (numS 1 s).2).1) [] []) n (textS 2 4096 (numS 1 s).2).2 else if (numS 1 s).1 = 160 then finP (.node (numS 1 s).1 0 (str8 (textS 4 4096 (numS 1 s).2).1) [] []) n (textS 4 4096 (numS 1 s).2).2 else finP (.node (numS 1 s).1 0 ⟨#[]⟩ [] []) n (numS 1 s).2)) := by
 obtain ⟨M, hM⟩ : ∃ M : Nat, M = n + 1 := ⟨_, rfl⟩
 rw [← hM]
 have hM1 : (M : Int) - 1 = (n : Int) := by omega
 have hM2 : (M : Int) ≤ 200 := by omega
 have hM3 : decide ((n : Int) < 0) = false := by simp
 have hD6 : ¬ (6 : Int) < (D : Int) := by omega
 have hs1l : lenS (numS 1 s).2 ≤ 40000 := Nat.le_trans (numS_lenS 1 s) hs
 obtain ⟨r, hr⟩ : ∃ r, r = if (numS 1 s).1 = 8 ∨ (numS 1 s).1 = 2 then finP (.node (numS 1 s).1 (numS 1 (numS 1 s).2).1 ⟨#[]⟩ [] []) n (numS 1 (numS 1 s).2).2 else if (numS 1 s).1 = 49 ∨ (numS 1 s).1 = 50 then finP (.node (numS 1 s).1 (numS 8 (numS 1 s).2).1 ⟨#[]⟩ [] []) n (numS 8 (numS 1 s).2).2 else if (numS 1 s).1 = 149 then finP (.node (numS 1 s).1 0 (str8 (textS 2 4096 (numS 1 s).2).1) [] []) n (textS 2 4096 (numS 1 s).2).2 else if (numS 1 s).1 = 160 then finP (.node (numS 1 s).1 0 (str8 (textS 4 4096 (numS 1 s).2).1) [] []) n (textS 4 4096 (numS 1 s).2).2 else finP (.node (numS 1 s).1 0 ⟨#[]⟩ [] []) n (numS 1 s).2 := ⟨_, rfl⟩
 rw [← hr]
 have hglt := hQ.lt
 obtain ⟨W0, hW0⟩ : ∃ W0, W0 = w.alloc (Obj.cells #[.int .u8 0, .int .u64 0, .string ⟨#[]⟩, .slice none 0 0, .slice none 0 0] 63) := ⟨_, rfl⟩
 have hb0 : Below w.heap.size w W0 := by rw [hW0]; exact below_boxV _ _
 have hs0 : W0.heap.size = w.heap.size + 1 := by rw [hW0]; simp
 have hQ0 := hQ.keep hb0.size (hb0.block g hglt) (fun hd => hb0.block d hd)
 have hX0 : BoxV W0 w.heap.size (.int .u8 0) (.int .u64 0) (.string ⟨#[]⟩) (.slice none 0 0) (.slice none 0 0) := by rw [hW0]; exact BoxV.new w
 have hg0 : w.grownBy W0 (some g) := rd_grown (grown_refl w _) hb0
 have HNU := Lib.hid (qnum_any g d s 1 W0 hQ0 (by omega))
 have hk := numS1_lt s
 generalize (numS 1 s).2 = s1 at *
 generalize (numS 1 s).1 = k at *
 have hk8 : IntKind.u8.wrap (k : Int) = (k : Int) := by rw [IntKind.wrap_u8]; omega
 have HX0 := Lib.hid hX0
 have HG0 := Lib.hid hg0
 have HS0 := Lib.hid hs0
 clear hQ hb0 hs0 hQ0 hX0 hg0
 have HKK := Lib.hid hkk
 clear hkk
 have HR := Lib.hid hr
 clear hr hM
 go_enter Tryz.func111, Tryz.ntmps111
 go_wp2_with fail
 rw [← hW0]
 have HW0 := Lib.hid hW0
 clear hW0
 refine HNU.out.mono ?_
 rintro e w1 ⟨rfl, hq1, hg1⟩
 have hX1 : BoxV w1 w.heap.size (.int .u8 0) (.int .u64 0) (.string ⟨#[]⟩) (.slice none 0 0) (.slice none 0 0) := (hg1.block _ (by rw [HS0.out]; omega) (fun e => by have := Option.some.inj e; omega)).trans HX0.out
 have hG1 := grown_trans' HG0.out hg1
 have hs1 := hX1.lt
 go_upto_region 3 with fail
 obtain ⟨W2, hW2⟩ : ∃ W2, W2 = w1.alloc (Obj.cells #[.int .u8 k, .int .u64 0, .string ⟨#[]⟩, .slice none 0 0, .slice none 0 0] 63) := ⟨_, rfl⟩
 have hb2 : Below w1.heap.size w1 W2 := by rw [hW2]; exact below_boxV _ _
 have hs2 : W2.heap.size = w1.heap.size + 1 := by rw [hW2]; simp
 have hV2 : BoxV W2 w1.heap.size (.int .u8 k) (.int .u64 0) (.string ⟨#[]⟩) (.slice none 0 0) (.slice none 0 0) := by rw [hW2]; exact BoxV.new w1
 have hX2 := hX1.kept hb2 (Nat.le_refl _)
 have hq2 := hq1.keep hb2.size (hb2.block g hq1.lt) (fun hd => hb2.block d hd)
 have hG2 := rd_grown hG1 hb2
 rw [← hW2]
 clear hW2 hb2 hX1 hq1 hG1 hg1
 have v0 := hV2.c0
 have fv := hV2.fr
 have hgB : g ≠ w1.heap.size := by omega
 have hdB : d ≠ w1.heap.size := by omega
 have HQ2 := Lib.hid hq2
 have HV2 := Lib.hid hV2
 have HX2 := Lib.hid hX2
 have HG2 := Lib.hid hG2
 have HN8 := Lib.hid (fun (q : Int) => qnum_any g d s1 q W2 hq2 (by omega))
 have HT8 := Lib.hid (fun (q : Int) => qtext_any g d s1 q 4096 W2 hq2 (by omega) (by omega) (by omega))
 have HTF := Lib.hid (fun (q : Int) => textS_fst_le q 4096 s1)
 have HNL := Lib.hid (fun (q : Int) => numS_lt q s1)
 clear hq2 hV2 hX2 hG2
 generalize hB : w1.heap.size = B at *
 have hBw : w.heap.size < B := by omega
 clear hs1 hs2 hB
 have hkk := HKK.out
 subst hkk
 clear hk8
 have HRK := Lib.hid (show r = finP (.node 8 (numS 1 s1).1 ⟨#[]⟩ [] []) n (numS 1 s1).2 from by rw [HR.out]; rfl)
 have HNB := Lib.hid (HNL.out 1)
 have HN := Lib.hid (HN8.out 1)
 clear HR HN8 HT8 HTF HNL
 generalize (numS 1 s1).1 = nn at *
 generalize (numS 1 s1).2 = s3 at *
 go_wp2_with fail
 refine HN.out.mono ?_
 rintro e w3 ⟨rfl, hq3, hg3⟩
 have hX3 := (hg3.block w.heap.size HX2.out.lt (fun e => by have := Option.some.inj e; omega)).trans HX2.out
 have hV3 := (hg3.block B HV2.out.lt (fun e => by have := Option.some.inj e; omega)).trans HV2.out
 have hG3 := grown_trans' HG2.out hg3
 have hV4 := heap_setCell_same w3 B 1 _ 63 (.int .u64 (nn : Nat)) hV3
 have hX4 := (Below.heap_setCell w3 ⟨B, 1, none⟩ (.int .u64 (nn : Nat)) w.heap.size (by show w.heap.size ≠ B; omega)).trans hX3
 have hq4 := QS.keep (w' := w3.setCell ⟨B, 1, none⟩ (.int .u64 (nn : Nat))) hq3 (by simp) (Below.heap_setCell _ _ _ _ (by show g ≠ B; omega)) (fun _ => Below.heap_setCell _ _ _ _ (by show d ≠ B; omega))
 have hG4 := grown_setN hG3 (p := B) (by omega) 1 (.int .u64 (nn : Nat))
 have f3 := BoxV.fr hV3 1
 have f4 := BoxV.c1 hV3
 have H4 := Lib.hid (And.intro hV4 (And.intro hX4 (And.intro hq4 hG4)))
 clear hX3 hV3 hq3 hG3 hg3 hV4 hX4 hq4 hG4 v0 fv
 go_upto_region 31 with fail
 obtain ⟨hV3, hX3, hq3, hG3⟩ := H4.out
 clear f3 f4
 generalize w3.setCell ⟨B, 1, none⟩ (.int .u64 (nn : Nat)) = W3 at *
 replace hV3 : BoxV W3 B (.int .u8 8) (.int .u64 (nn : Nat)) (.string ⟨#[]⟩) (.slice none 0 0) (.slice none 0 0) := hV3
 replace hX3 : BoxV W3 w.heap.size (.int .u8 0) (.int .u64 0) (.string ⟨#[]⟩) (.slice none 0 0) (.slice none 0 0) := hX3
 have v0 := hV3.c0
 have v1 := hV3.c1
 have v2 := hV3.c2
 have v3 := hV3.c3
 have v4 := hV3.c4
 have y1 := hq3.c1
 have fz := hX3.fr
 have u0 : W3.drew.cell? ⟨B, 0, none⟩ = _ := v0
 have u1 : W3.drew.cell? ⟨B, 1, none⟩ = _ := v1
 have u2 : W3.drew.cell? ⟨B, 2, none⟩ = _ := v2
 have u3 : W3.drew.cell? ⟨B, 3, none⟩ = _ := v3
 have u4 : W3.drew.cell? ⟨B, 4, none⟩ = _ := v4
 have z1 : W3.drew.cell? ⟨g, 1, none⟩ = _ := y1
 have fd : ∀ i, W3.drew.frozen? ⟨w.heap.size, i, none⟩ = false := fz
 have t0 : W3.drew.cell? ⟨w.heap.size, 0, none⟩ = _ := hX3.c0
 have t1 : W3.drew.cell? ⟨w.heap.size, 1, none⟩ = _ := hX3.c1
 have t2 : W3.drew.cell? ⟨w.heap.size, 2, none⟩ = _ := hX3.c2
 have t3 : W3.drew.cell? ⟨w.heap.size, 3, none⟩ = _ := hX3.c3
 have t4 : W3.drew.cell? ⟨w.heap.size, 4, none⟩ = _ := hX3.c4
 have s0 := hX3.c0
 have s1' := hX3.c1
 have s2' := hX3.c2
 have s3' := hX3.c3
 have s4 := hX3.c4
 have hX3d : BoxV W3.drew w.heap.size (.int .u8 0) (.int .u64 0) (.string ⟨#[]⟩) (.slice none 0 0) (.slice none 0 0) := hX3
 have R5 := Lib.hid (BoxV.drw (BoxV.put5 hX3 (.int .u8 8) (.int .u64 (nn : Nat)) (.string ⟨#[]⟩) (.slice none 0 0) (.slice none 0 0)))
 have HQ5 := Lib.hid (QS.drw (QS.keep (w' := (((((W3.setCell ⟨w.heap.size, 0, none⟩ (.int .u8 8)).setCell ⟨w.heap.size, 1, none⟩ (.int .u64 (nn : Nat))).setCell ⟨w.heap.size, 2, none⟩ (.string ⟨#[]⟩)).setCell ⟨w.heap.size, 3, none⟩ (.slice none 0 0)).setCell ⟨w.heap.size, 4, none⟩ (.slice none 0 0))) hq3 (by simp) ((Below.heap_setCell _ _ _ _ (by show g ≠ w.heap.size; omega)).trans ((Below.heap_setCell _ _ _ _ (by show g ≠ w.heap.size; omega)).trans ((Below.heap_setCell _ _ _ _ (by show g ≠ w.heap.size; omega)).trans ((Below.heap_setCell _ _ _ _ (by show g ≠ w.heap.size; omega)).trans (Below.heap_setCell _ _ _ _ (by show g ≠ w.heap.size; omega)))))) (fun _ => (Below.heap_setCell _ _ _ _ (by show d ≠ w.heap.size; omega)).trans ((Below.heap_setCell _ _ _ _ (by show d ≠ w.heap.size; omega)).trans ((Below.heap_setCell _ _ _ _ (by show d ≠ w.heap.size; omega)).trans ((Below.heap_setCell _ _ _ _ (by show d ≠ w.heap.size; omega)).trans (Below.heap_setCell _ _ _ _ (by show d ≠ w.heap.size; omega))))))))
 have HG5 := Lib.hid (grown_drew (grown_set5 hG3 (Nat.le_refl w.heap.size) (.int .u8 8) (.int .u64 (nn : Nat)) (.string ⟨#[]⟩) (.slice none 0 0) (.slice none 0 0)))
 clear hV3 hq3 hX3 hG3 hX3d
 go_region
 go_wp2_with fail
 refine bodyPost_ret (results_v3 rfl _ _ w.heap.size 63 _ (0, 0) _ rfl R5.out Tryz.underlying63 rfl (by kernel_rfl)) rfl ?_
 rw [HRK.out]
 exact read_end (k := 8) (nn := nn) (st := ⟨#[]⟩) (n := n) rfl rfl HG5.out HQ5.out (fun _ => leaf_shows (by decide) HNB.out (by decide))
end Go.Proofs.YtdklhcmoilcpgaaGreat
namespace Go.Proofs.YtdklhcmoilcpgaaGreat
open Go.RowKit
set_option maxRecDepth 100000 in
set_option maxHeartbeats 16000000 in
theorem read_leaf2 (D n g d : Nat) (s : St) (w : World) (hQ : QS w g d s) (hdg : d ≤ g) (hs : lenS s ≤ 40000) (hD : D ≤ 6) (hn : n < 200) (hkk : (numS 1 s).1 = 2) :
  Calls Tryz.prog 111 #[.pointer (some ⟨g, 0, none⟩), .int .i64 D, .int .i64 ((n + 1 : Nat) : Int)] w (ReadSaid g d w (if (numS 1 s).1 = 8 ∨ (numS 1 s).1 = 2 then finP (.node (numS 1 s).1 (numS 1 (numS 1 s).2).1 ⟨#[]⟩ [] []) n (numS 1 (numS 1 s).2).2 else if (numS 1 s).1 = 49 ∨ (numS 1 s).1 = 50 then finP (.node (numS 1 s).1 (numS 8 (numS 1 s).2).1 ⟨#[]⟩ [] []) n (numS 8 (numS 1 s).2).2 else if (numS 1 s).1 = 149 then finP (.node (numS 1 s).1 0 (str8 (textS 2 4096 (numS 1 s).2).1) [] []) n (textS 2 4096 (numS 1 s).2).2 else if (numS 1 s).1 = 160 then finP (.node (numS 1 s).1 0 (str8 (textS 4 4096 (numS 1 s).2).1) [] []) n (textS 4 4096 (numS 1 s).2).2 else finP (.node (numS 1 s).1 0 ⟨#[]⟩ [] []) n (numS 1 s).2)) := by
 obtain ⟨M, hM⟩ : ∃ M : Nat, M = n + 1 := ⟨_, rfl⟩
 rw [← hM]
 have hM1 : (M : Int) - 1 = (n : Int) := by omega
 have hM2 : (M : Int) ≤ 200 := by omega
 have hM3 : decide ((n : Int) < 0) = false := by simp
 have hD6 : ¬ (6 : Int) < (D : Int) := by omega
 have hs1l : lenS (numS 1 s).2 ≤ 40000 := Nat.le_trans (numS_lenS 1 s) hs
 obtain ⟨r, hr⟩ : ∃ r, r = if (numS 1 s).1 = 8 ∨ (numS 1 s).1 = 2 then finP (.node (numS 1 s).1 (numS 1 (numS 1 s).2).1 ⟨#[]⟩ [] []) n (numS 1 (numS 1 s).2).2 else if (numS 1 s).1 = 49 ∨ (numS 1 s).1 = 50 then finP (.node (numS 1 s).1 (numS 8 (numS 1 s).2).1 ⟨#[]⟩ [] []) n (numS 8 (numS 1 s).2).2 else if (numS 1 s).1 = 149 then finP (.node (numS 1 s).1 0 (str8 (textS 2 4096 (numS 1 s).2).1) [] []) n (textS 2 4096 (numS 1 s).2).2 else if (numS 1 s).1 = 160 then finP (.node (numS 1 s).1 0 (str8 (textS 4 4096 (numS 1 s).2).1) [] []) n (textS 4 4096 (numS 1 s).2).2 else finP (.node (numS 1 s).1 0 ⟨#[]⟩ [] []) n (numS 1 s).2 := ⟨_, rfl⟩
 rw [← hr]
 have hglt := hQ.lt
 obtain ⟨W0, hW0⟩ : ∃ W0, W0 = w.alloc (Obj.cells #[.int .u8 0, .int .u64 0, .string ⟨#[]⟩, .slice none 0 0, .slice none 0 0] 63) := ⟨_, rfl⟩
 have hb0 : Below w.heap.size w W0 := by rw [hW0]; exact below_boxV _ _
 have hs0 : W0.heap.size = w.heap.size + 1 := by rw [hW0]; simp
 have hQ0 := hQ.keep hb0.size (hb0.block g hglt) (fun hd => hb0.block d hd)
 have hX0 : BoxV W0 w.heap.size (.int .u8 0) (.int .u64 0) (.string ⟨#[]⟩) (.slice none 0 0) (.slice none 0 0) := by rw [hW0]; exact BoxV.new w
 have hg0 : w.grownBy W0 (some g) := rd_grown (grown_refl w _) hb0
 have HNU := Lib.hid (qnum_any g d s 1 W0 hQ0 (by omega))
 have hk := numS1_lt s
 generalize (numS 1 s).2 = s1 at *
 generalize (numS 1 s).1 = k at *
 have hk8 : IntKind.u8.wrap (k : Int) = (k : Int) := by rw [IntKind.wrap_u8]; omega
 have HX0 := Lib.hid hX0
 have HG0 := Lib.hid hg0
 have HS0 := Lib.hid hs0
 clear hQ hb0 hs0 hQ0 hX0 hg0
 have HKK := Lib.hid hkk
 clear hkk
 have HR := Lib.hid hr
 clear hr hM
 go_enter Tryz.func111, Tryz.ntmps111
 go_wp2_with fail
 rw [← hW0]
 have HW0 := Lib.hid hW0
 clear hW0
 refine HNU.out.mono ?_
 rintro e w1 ⟨rfl, hq1, hg1⟩
 have hX1 : BoxV w1 w.heap.size (.int .u8 0) (.int .u64 0) (.string ⟨#[]⟩) (.slice none 0 0) (.slice none 0 0) := (hg1.block _ (by rw [HS0.out]; omega) (fun e => by have := Option.some.inj e; omega)).trans HX0.out
 have hG1 := grown_trans' HG0.out hg1
 have hs1 := hX1.lt
 go_upto_region 3 with fail
 obtain ⟨W2, hW2⟩ : ∃ W2, W2 = w1.alloc (Obj.cells #[.int .u8 k, .int .u64 0, .string ⟨#[]⟩, .slice none 0 0, .slice none 0 0] 63) := ⟨_, rfl⟩
 have hb2 : Below w1.heap.size w1 W2 := by rw [hW2]; exact below_boxV _ _
 have hs2 : W2.heap.size = w1.heap.size + 1 := by rw [hW2]; simp
 have hV2 : BoxV W2 w1.heap.size (.int .u8 k) (.int .u64 0) (.string ⟨#[]⟩) (.slice none 0 0) (.slice none 0 0) := by rw [hW2]; exact BoxV.new w1
 have hX2 := hX1.kept hb2 (Nat.le_refl _)
 have hq2 := hq1.keep hb2.size (hb2.block g hq1.lt) (fun hd => hb2.block d hd)
 have hG2 := rd_grown hG1 hb2
 rw [← hW2]
 clear hW2 hb2 hX1 hq1 hG1 hg1
 have v0 := hV2.c0
 have fv := hV2.fr
 have hgB : g ≠ w1.heap.size := by omega
 have hdB : d ≠ w1.heap.size := by omega
 have HQ2 := Lib.hid hq2
 have HV2 := Lib.hid hV2
 have HX2 := Lib.hid hX2
 have HG2 := Lib.hid hG2
 have HN8 := Lib.hid (fun (q : Int) => qnum_any g d s1 q W2 hq2 (by omega))
 have HT8 := Lib.hid (fun (q : Int) => qtext_any g d s1 q 4096 W2 hq2 (by omega) (by omega) (by omega))
 have HTF := Lib.hid (fun (q : Int) => textS_fst_le q 4096 s1)
 have HNL := Lib.hid (fun (q : Int) => numS_lt q s1)
 clear hq2 hV2 hX2 hG2
 generalize hB : w1.heap.size = B at *
 have hBw : w.heap.size < B := by omega
 clear hs1 hs2 hB
 have hkk := HKK.out
 subst hkk
 clear hk8
 have HRK := Lib.hid (show r = finP (.node 2 (numS 1 s1).1 ⟨#[]⟩ [] []) n (numS 1 s1).2 from by rw [HR.out]; rfl)
 have HNB := Lib.hid (HNL.out 1)
 have HN := Lib.hid (HN8.out 1)
 clear HR HN8 HT8 HTF HNL
 generalize (numS 1 s1).1 = nn at *
 generalize (numS 1 s1).2 = s3 at *
 go_wp2_with fail
 refine HN.out.mono ?_
 rintro e w3 ⟨rfl, hq3, hg3⟩
 have hX3 := (hg3.block w.heap.size HX2.out.lt (fun e => by have := Option.some.inj e; omega)).trans HX2.out
 have hV3 := (hg3.block B HV2.out.lt (fun e => by have := Option.some.inj e; omega)).trans HV2.out
 have hG3 := grown_trans' HG2.out hg3
 have hV4 := heap_setCell_same w3 B 1 _ 63 (.int .u64 (nn : Nat)) hV3
 have hX4 := (Below.heap_setCell w3 ⟨B, 1, none⟩ (.int .u64 (nn : Nat)) w.heap.size (by show w.heap.size ≠ B; omega)).trans hX3
 have hq4 := QS.keep (w' := w3.setCell ⟨B, 1, none⟩ (.int .u64 (nn : Nat))) hq3 (by simp) (Below.heap_setCell _ _ _ _ (by show g ≠ B; omega)) (fun _ => Below.heap_setCell _ _ _ _ (by show d ≠ B; omega))
 have hG4 := grown_setN hG3 (p := B) (by omega) 1 (.int .u64 (nn : Nat))
 have f3 := BoxV.fr hV3 1
 have f4 := BoxV.c1 hV3
 have H4 := Lib.hid (And.intro hV4 (And.intro hX4 (And.intro hq4 hG4)))
 clear hX3 hV3 hq3 hG3 hg3 hV4 hX4 hq4 hG4 v0 fv
 go_upto_region 31 with fail
 obtain ⟨hV3, hX3, hq3, hG3⟩ := H4.out
 clear f3 f4
 generalize w3.setCell ⟨B, 1, none⟩ (.int .u64 (nn : Nat)) = W3 at *
 replace hV3 : BoxV W3 B (.int .u8 2) (.int .u64 (nn : Nat)) (.string ⟨#[]⟩) (.slice none 0 0) (.slice none 0 0) := hV3
 replace hX3 : BoxV W3 w.heap.size (.int .u8 0) (.int .u64 0) (.string ⟨#[]⟩) (.slice none 0 0) (.slice none 0 0) := hX3
 have v0 := hV3.c0
 have v1 := hV3.c1
 have v2 := hV3.c2
 have v3 := hV3.c3
 have v4 := hV3.c4
 have y1 := hq3.c1
 have fz := hX3.fr
 have u0 : W3.drew.cell? ⟨B, 0, none⟩ = _ := v0
 have u1 : W3.drew.cell? ⟨B, 1, none⟩ = _ := v1
 have u2 : W3.drew.cell? ⟨B, 2, none⟩ = _ := v2
 have u3 : W3.drew.cell? ⟨B, 3, none⟩ = _ := v3
 have u4 : W3.drew.cell? ⟨B, 4, none⟩ = _ := v4
 have z1 : W3.drew.cell? ⟨g, 1, none⟩ = _ := y1
 have fd : ∀ i, W3.drew.frozen? ⟨w.heap.size, i, none⟩ = false := fz
 have t0 : W3.drew.cell? ⟨w.heap.size, 0, none⟩ = _ := hX3.c0
 have t1 : W3.drew.cell? ⟨w.heap.size, 1, none⟩ = _ := hX3.c1
 have t2 : W3.drew.cell? ⟨w.heap.size, 2, none⟩ = _ := hX3.c2
 have t3 : W3.drew.cell? ⟨w.heap.size, 3, none⟩ = _ := hX3.c3
 have t4 : W3.drew.cell? ⟨w.heap.size, 4, none⟩ = _ := hX3.c4
 have s0 := hX3.c0
 have s1' := hX3.c1
 have s2' := hX3.c2
 have s3' := hX3.c3
 have s4 := hX3.c4
 have hX3d : BoxV W3.drew w.heap.size (.int .u8 0) (.int .u64 0) (.string ⟨#[]⟩) (.slice none 0 0) (.slice none 0 0) := hX3
 have R5 := Lib.hid (BoxV.drw (BoxV.put5 hX3 (.int .u8 2) (.int .u64 (nn : Nat)) (.string ⟨#[]⟩) (.slice none 0 0) (.slice none 0 0)))
 have HQ5 := Lib.hid (QS.drw (QS.keep (w' := (((((W3.setCell ⟨w.heap.size, 0, none⟩ (.int .u8 2)).setCell ⟨w.heap.size, 1, none⟩ (.int .u64 (nn : Nat))).setCell ⟨w.heap.size, 2, none⟩ (.string ⟨#[]⟩)).setCell ⟨w.heap.size, 3, none⟩ (.slice none 0 0)).setCell ⟨w.heap.size, 4, none⟩ (.slice none 0 0))) hq3 (by simp) ((Below.heap_setCell _ _ _ _ (by show g ≠ w.heap.size; omega)).trans ((Below.heap_setCell _ _ _ _ (by show g ≠ w.heap.size; omega)).trans ((Below.heap_setCell _ _ _ _ (by show g ≠ w.heap.size; omega)).trans ((Below.heap_setCell _ _ _ _ (by show g ≠ w.heap.size; omega)).trans (Below.heap_setCell _ _ _ _ (by show g ≠ w.heap.size; omega)))))) (fun _ => (Below.heap_setCell _ _ _ _ (by show d ≠ w.heap.size; omega)).trans ((Below.heap_setCell _ _ _ _ (by show d ≠ w.heap.size; omega)).trans ((Below.heap_setCell _ _ _ _ (by show d ≠ w.heap.size; omega)).trans ((Below.heap_setCell _ _ _ _ (by show d ≠ w.heap.size; omega)).trans (Below.heap_setCell _ _ _ _ (by show d ≠ w.heap.size; omega))))))))
 have HG5 := Lib.hid (grown_drew (grown_set5 hG3 (Nat.le_refl w.heap.size) (.int .u8 2) (.int .u64 (nn : Nat)) (.string ⟨#[]⟩) (.slice none 0 0) (.slice none 0 0)))
 clear hV3 hq3 hX3 hG3 hX3d
 go_region
 go_wp2_with fail
 refine bodyPost_ret (results_v3 rfl _ _ w.heap.size 63 _ (0, 0) _ rfl R5.out Tryz.underlying63 rfl (by kernel_rfl)) rfl ?_
 rw [HRK.out]
 exact read_end (k := 2) (nn := nn) (st := ⟨#[]⟩) (n := n) rfl rfl HG5.out HQ5.out (fun _ => leaf_shows (by decide) HNB.out (by decide))
end Go.Proofs.YtdklhcmoilcpgaaGreat
namespace Go.Proofs.YtdklhcmoilcpgaaGreat
open Go.RowKit
set_option maxRecDepth 100000 in
set_option maxHeartbeats 16000000 in
theorem read_leaf49 (D n g d : Nat) (s : St) (w : World) (hQ : QS w g d s) (hdg : d ≤ g) (hs : lenS s ≤ 40000) (hD : D ≤ 6) (hn : n < 200) (hkk : (numS 1 s).1 = 49) :
  Calls Tryz.prog 111 #[.pointer (some ⟨g, 0, none⟩), .int .i64 D, .int .i64 ((n + 1 : Nat) : Int)] w (ReadSaid g d w (if (numS 1 s).1 = 8 ∨ (numS 1 s).1 = 2 then finP (.node (numS 1 s).1 (numS 1 (numS 1 s).2).1 ⟨#[]⟩ [] []) n (numS 1 (numS 1 s).2).2 else if (numS 1 s).1 = 49 ∨ (numS 1 s).1 = 50 then finP (.node (numS 1 s).1 (numS 8 (numS 1 s).2).1 ⟨#[]⟩ [] []) n (numS 8 (numS 1 s).2).2 else if (numS 1 s).1 = 149 then finP (.node (numS 1 s).1 0 (str8 (textS 2 4096 (numS 1 s).2).1) [] []) n (textS 2 4096 (numS 1 s).2).2 else if (numS 1 s).1 = 160 then finP (.node (numS 1 s).1 0 (str8 (textS 4 4096 (numS 1 s).2).1) [] []) n (textS 4 4096 (numS 1 s).2).2 else finP (.node (numS 1 s).1 0 ⟨#[]⟩ [] []) n (numS 1 s).2)) := by
 obtain ⟨M, hM⟩ : ∃ M : Nat, M = n + 1 := ⟨_, rfl⟩
 rw [← hM]
 have hM1 : (M : Int) - 1 = (n : Int) := by omega
 have hM2 : (M : Int) ≤ 200 := by omega
 have hM3 : decide ((n : Int) < 0) = false := by simp
 have hD6 : ¬ (6 : Int) < (D : Int) := by omega
 have hs1l : lenS (numS 1 s).2 ≤ 40000 := Nat.le_trans (numS_lenS 1 s) hs
 obtain ⟨r, hr⟩ : ∃ r, r = if (numS 1 s).1 = 8 ∨ (numS 1 s).1 = 2 then finP (.node (numS 1 s).1 (numS 1 (numS 1 s).2).1 ⟨#[]⟩ [] []) n (numS 1 (numS 1 s).2).2 else if (numS 1 s).1 = 49 ∨ (numS 1 s).1 = 50 then finP (.node (numS 1 s).1 (numS 8 (numS 1 s).2).1 ⟨#[]⟩ [] []) n (numS 8 (numS 1 s).2).2 else if (numS 1 s).1 = 149 then finP (.node (numS 1 s).1 0 (str8 (textS 2 4096 (numS 1 s).2).1) [] []) n (textS 2 4096 (numS 1 s).2).2 else if (numS 1 s).1 = 160 then finP (.node (numS 1 s).1 0 (str8 (textS 4 4096 (numS 1 s).2).1) [] []) n (textS 4 4096 (numS 1 s).2).2 else finP (.node (numS 1 s).1 0 ⟨#[]⟩ [] []) n (numS 1 s).2 := ⟨_, rfl⟩
 rw [← hr]
 have hglt := hQ.lt
 obtain ⟨W0, hW0⟩ : ∃ W0, W0 = w.alloc (Obj.cells #[.int .u8 0, .int .u64 0, .string ⟨#[]⟩, .slice none 0 0, .slice none 0 0] 63) := ⟨_, rfl⟩
 have hb0 : Below w.heap.size w W0 := by rw [hW0]; exact below_boxV _ _
 have hs0 : W0.heap.size = w.heap.size + 1 := by rw [hW0]; simp
 have hQ0 := hQ.keep hb0.size (hb0.block g hglt) (fun hd => hb0.block d hd)
 have hX0 : BoxV W0 w.heap.size (.int .u8 0) (.int .u64 0) (.string ⟨#[]⟩) (.slice none 0 0) (.slice none 0 0) := by rw [hW0]; exact BoxV.new w
 have hg0 : w.grownBy W0 (some g) := rd_grown (grown_refl w _) hb0
 have HNU := Lib.hid (qnum_any g d s 1 W0 hQ0 (by omega))
 have hk := numS1_lt s
 generalize (numS 1 s).2 = s1 at *
 generalize (numS 1 s).1 = k at *
 have hk8 : IntKind.u8.wrap (k : Int) = (k : Int) := by rw [IntKind.wrap_u8]; omega
 have HX0 := Lib.hid hX0
 have HG0 := Lib.hid hg0
 have HS0 := Lib.hid hs0
 clear hQ hb0 hs0 hQ0 hX0 hg0
 have HKK := Lib.hid hkk
 clear hkk
 have HR := Lib.hid hr
 clear hr hM
 go_enter Tryz.func111, Tryz.ntmps111
 go_wp2_with fail
 rw [← hW0]
 have HW0 := Lib.hid hW0
 clear hW0
 refine HNU.out.mono ?_
 rintro e w1 ⟨rfl, hq1, hg1⟩
 have hX1 : BoxV w1 w.heap.size (.int .u8 0) (.int .u64 0) (.string ⟨#[]⟩) (.slice none 0 0) (.slice none 0 0) := (hg1.block _ (by rw [HS0.out]; omega) (fun e => by have := Option.some.inj e; omega)).trans HX0.out
 have hG1 := grown_trans' HG0.out hg1
 have hs1 := hX1.lt
 go_upto_region 3 with fail
 obtain ⟨W2, hW2⟩ : ∃ W2, W2 = w1.alloc (Obj.cells #[.int .u8 k, .int .u64 0, .string ⟨#[]⟩, .slice none 0 0, .slice none 0 0] 63) := ⟨_, rfl⟩
 have hb2 : Below w1.heap.size w1 W2 := by rw [hW2]; exact below_boxV _ _
 have hs2 : W2.heap.size = w1.heap.size + 1 := by rw [hW2]; simp
 have hV2 : BoxV W2 w1.heap.size (.int .u8 k) (.int .u64 0) (.string ⟨#[]⟩) (.slice none 0 0) (.slice none 0 0) := by rw [hW2]; exact BoxV.new w1
 have hX2 := hX1.kept hb2 (Nat.le_refl _)
 have hq2 := hq1.keep hb2.size (hb2.block g hq1.lt) (fun hd => hb2.block d hd)
 have hG2 := rd_grown hG1 hb2
 rw [← hW2]
 clear hW2 hb2 hX1 hq1 hG1 hg1
 have v0 := hV2.c0
 have fv := hV2.fr
 have hgB : g ≠ w1.heap.size := by omega
 have hdB : d ≠ w1.heap.size := by omega
 have HQ2 := Lib.hid hq2
 have HV2 := Lib.hid hV2
 have HX2 := Lib.hid hX2
 have HG2 := Lib.hid hG2
 have HN8 := Lib.hid (fun (q : Int) => qnum_any g d s1 q W2 hq2 (by omega))
 have HT8 := Lib.hid (fun (q : Int) => qtext_any g d s1 q 4096 W2 hq2 (by omega) (by omega) (by omega))
 have HTF := Lib.hid (fun (q : Int) => textS_fst_le q 4096 s1)
 have HNL := Lib.hid (fun (q : Int) => numS_lt q s1)
 clear hq2 hV2 hX2 hG2
 generalize hB : w1.heap.size = B at *
 have hBw : w.heap.size < B := by omega
 clear hs1 hs2 hB
 have hkk := HKK.out
 subst hkk
 clear hk8
 have HRK := Lib.hid (show r = finP (.node 49 (numS 8 s1).1 ⟨#[]⟩ [] []) n (numS 8 s1).2 from by rw [HR.out]; rfl)
 have HNB := Lib.hid (HNL.out 8)
 have HN := Lib.hid (HN8.out 8)
 clear HR HN8 HT8 HTF HNL
 generalize (numS 8 s1).1 = nn at *
 generalize (numS 8 s1).2 = s3 at *
 go_wp2_with fail
 refine HN.out.mono ?_
 rintro e w3 ⟨rfl, hq3, hg3⟩
 have hX3 := (hg3.block w.heap.size HX2.out.lt (fun e => by have := Option.some.inj e; omega)).trans HX2.out
 have hV3 := (hg3.block B HV2.out.lt (fun e => by have := Option.some.inj e; omega)).trans HV2.out
 have hG3 := grown_trans' HG2.out hg3
 have hV4 := heap_setCell_same w3 B 1 _ 63 (.int .u64 (nn : Nat)) hV3
 have hX4 := (Below.heap_setCell w3 ⟨B, 1, none⟩ (.int .u64 (nn : Nat)) w.heap.size (by show w.heap.size ≠ B; omega)).trans hX3
 have hq4 := QS.keep (w' := w3.setCell ⟨B, 1, none⟩ (.int .u64 (nn : Nat))) hq3 (by simp) (Below.heap_setCell _ _ _ _ (by show g ≠ B; omega)) (fun _ => Below.heap_setCell _ _ _ _ (by show d ≠ B; omega))
 have hG4 := grown_setN hG3 (p := B) (by omega) 1 (.int .u64 (nn : Nat))
 have f3 := BoxV.fr hV3 1
 have f4 := BoxV.c1 hV3
 have H4 := Lib.hid (And.intro hV4 (And.intro hX4 (And.intro hq4 hG4)))
 clear hX3 hV3 hq3 hG3 hg3 hV4 hX4 hq4 hG4 v0 fv
 go_upto_region 31 with fail
 obtain ⟨hV3, hX3, hq3, hG3⟩ := H4.out
 clear f3 f4
 generalize w3.setCell ⟨B, 1, none⟩ (.int .u64 (nn : Nat)) = W3 at *
 replace hV3 : BoxV W3 B (.int .u8 49) (.int .u64 (nn : Nat)) (.string ⟨#[]⟩) (.slice none 0 0) (.slice none 0 0) := hV3
 replace hX3 : BoxV W3 w.heap.size (.int .u8 0) (.int .u64 0) (.string ⟨#[]⟩) (.slice none 0 0) (.slice none 0 0) := hX3
 have v0 := hV3.c0
 have v1 := hV3.c1
 have v2 := hV3.c2
 have v3 := hV3.c3
 have v4 := hV3.c4
 have y1 := hq3.c1
 have fz := hX3.fr
 have u0 : W3.drew.cell? ⟨B, 0, none⟩ = _ := v0
 have u1 : W3.drew.cell? ⟨B, 1, none⟩ = _ := v1
 have u2 : W3.drew.cell? ⟨B, 2, none⟩ = _ := v2
 have u3 : W3.drew.cell? ⟨B, 3, none⟩ = _ := v3
 have u4 : W3.drew.cell? ⟨B, 4, none⟩ = _ := v4
 have z1 : W3.drew.cell? ⟨g, 1, none⟩ = _ := y1
 have fd : ∀ i, W3.drew.frozen? ⟨w.heap.size, i, none⟩ = false := fz
 have t0 : W3.drew.cell? ⟨w.heap.size, 0, none⟩ = _ := hX3.c0
 have t1 : W3.drew.cell? ⟨w.heap.size, 1, none⟩ = _ := hX3.c1
 have t2 : W3.drew.cell? ⟨w.heap.size, 2, none⟩ = _ := hX3.c2
 have t3 : W3.drew.cell? ⟨w.heap.size, 3, none⟩ = _ := hX3.c3
 have t4 : W3.drew.cell? ⟨w.heap.size, 4, none⟩ = _ := hX3.c4
 have s0 := hX3.c0
 have s1' := hX3.c1
 have s2' := hX3.c2
 have s3' := hX3.c3
 have s4 := hX3.c4
 have hX3d : BoxV W3.drew w.heap.size (.int .u8 0) (.int .u64 0) (.string ⟨#[]⟩) (.slice none 0 0) (.slice none 0 0) := hX3
 have R5 := Lib.hid (BoxV.drw (BoxV.put5 hX3 (.int .u8 49) (.int .u64 (nn : Nat)) (.string ⟨#[]⟩) (.slice none 0 0) (.slice none 0 0)))
 have HQ5 := Lib.hid (QS.drw (QS.keep (w' := (((((W3.setCell ⟨w.heap.size, 0, none⟩ (.int .u8 49)).setCell ⟨w.heap.size, 1, none⟩ (.int .u64 (nn : Nat))).setCell ⟨w.heap.size, 2, none⟩ (.string ⟨#[]⟩)).setCell ⟨w.heap.size, 3, none⟩ (.slice none 0 0)).setCell ⟨w.heap.size, 4, none⟩ (.slice none 0 0))) hq3 (by simp) ((Below.heap_setCell _ _ _ _ (by show g ≠ w.heap.size; omega)).trans ((Below.heap_setCell _ _ _ _ (by show g ≠ w.heap.size; omega)).trans ((Below.heap_setCell _ _ _ _ (by show g ≠ w.heap.size; omega)).trans ((Below.heap_setCell _ _ _ _ (by show g ≠ w.heap.size; omega)).trans (Below.heap_setCell _ _ _ _ (by show g ≠ w.heap.size; omega)))))) (fun _ => (Below.heap_setCell _ _ _ _ (by show d ≠ w.heap.size; omega)).trans ((Below.heap_setCell _ _ _ _ (by show d ≠ w.heap.size; omega)).trans ((Below.heap_setCell _ _ _ _ (by show d ≠ w.heap.size; omega)).trans ((Below.heap_setCell _ _ _ _ (by show d ≠ w.heap.size; omega)).trans (Below.heap_setCell _ _ _ _ (by show d ≠ w.heap.size; omega))))))))
 have HG5 := Lib.hid (grown_drew (grown_set5 hG3 (Nat.le_refl w.heap.size) (.int .u8 49) (.int .u64 (nn : Nat)) (.string ⟨#[]⟩) (.slice none 0 0) (.slice none 0 0)))
 clear hV3 hq3 hX3 hG3 hX3d
 go_region
 go_wp2_with fail
 refine bodyPost_ret (results_v3 rfl _ _ w.heap.size 63 _ (0, 0) _ rfl R5.out Tryz.underlying63 rfl (by kernel_rfl)) rfl ?_
 rw [HRK.out]
 exact read_end (k := 49) (nn := nn) (st := ⟨#[]⟩) (n := n) rfl rfl HG5.out HQ5.out (fun _ => leaf_shows (by decide) HNB.out (by decide))
end Go.Proofs.YtdklhcmoilcpgaaGreat
namespace Go.Proofs.YtdklhcmoilcpgaaGreat
open Go.RowKit
set_option maxRecDepth 100000 in
set_option maxHeartbeats 16000000 in
theorem read_leaf50 (D n g d : Nat) (s : St) (w : World) (hQ : QS w g d s) (hdg : d ≤ g) (hs : lenS s ≤ 40000) (hD : D ≤ 6) (hn : n < 200) (hkk : (numS 1 s).1 = 50) :
  Calls Tryz.prog 111 #[.pointer (some ⟨g, 0, none⟩), .int .i64 D, .int .i64 ((n + 1 : Nat) : Int)] w (ReadSaid g d w (if (numS 1 s).1 = 8 ∨ (numS 1 s).1 = 2 then finP (.node (numS 1 s).1 (numS 1 (numS 1 s).2).1 ⟨#[]⟩ [] []) n (numS 1 (numS 1 s).2).2 else if (numS 1 s).1 = 49 ∨ (numS 1 s).1 = 50 then finP (.node (numS 1 s).1 (numS 8 (numS 1 s).2).1 ⟨#[]⟩ [] []) n (numS 8 (numS 1 s).2).2 else if (numS 1 s).1 = 149 then finP (.node (numS 1 s).1 0 (str8 (textS 2 4096 (numS 1 s).2).1) [] []) n (textS 2 4096 (numS 1 s).2).2 else if (numS 1 s).1 = 160 then finP (.node (numS 1 s).1 0 (str8 (textS 4 4096 (numS 1 s).2).1) [] []) n (textS 4 4096 (numS 1 s).2).2 else finP (.node (numS 1 s).1 0 ⟨#[]⟩ [] []) n (numS 1 s).2)) := by
 obtain ⟨M, hM⟩ : ∃ M : Nat, M = n + 1 := ⟨_, rfl⟩
 rw [← hM]
 have hM1 : (M : Int) - 1 = (n : Int) := by omega
 have hM2 : (M : Int) ≤ 200 := by omega
 have hM3 : decide ((n : Int) < 0) = false := by simp
 have hD6 : ¬ (6 : Int) < (D : Int) := by omega
 have hs1l : lenS (numS 1 s).2 ≤ 40000 := Nat.le_trans (numS_lenS 1 s) hs
 obtain ⟨r, hr⟩ : ∃ r, r = if (numS 1 s).1 = 8 ∨ (numS 1 s).1 = 2 then finP (.node (numS 1 s).1 (numS 1 (numS 1 s).2).1 ⟨#[]⟩ [] []) n (numS 1 (numS 1 s).2).2 else if (numS 1 s).1 = 49 ∨ (numS 1 s).1 = 50 then finP (.node (numS 1 s).1 (numS 8 (numS 1 s).2).1 ⟨#[]⟩ [] []) n (numS 8 (numS 1 s).2).2 else if (numS 1 s).1 = 149 then finP (.node (numS 1 s).1 0 (str8 (textS 2 4096 (numS 1 s).2).1) [] []) n (textS 2 4096 (numS 1 s).2).2 else if (numS 1 s).1 = 160 then finP (.node (numS 1 s).1 0 (str8 (textS 4 4096 (numS 1 s).2).1) [] []) n (textS 4 4096 (numS 1 s).2).2 else finP (.node (numS 1 s).1 0 ⟨#[]⟩ [] []) n (numS 1 s).2 := ⟨_, rfl⟩
 rw [← hr]
 have hglt := hQ.lt
 obtain ⟨W0, hW0⟩ : ∃ W0, W0 = w.alloc (Obj.cells #[.int .u8 0, .int .u64 0, .string ⟨#[]⟩, .slice none 0 0, .slice none 0 0] 63) := ⟨_, rfl⟩
 have hb0 : Below w.heap.size w W0 := by rw [hW0]; exact below_boxV _ _
 have hs0 : W0.heap.size = w.heap.size + 1 := by rw [hW0]; simp
 have hQ0 := hQ.keep hb0.size (hb0.block g hglt) (fun hd => hb0.block d hd)
 have hX0 : BoxV W0 w.heap.size (.int .u8 0) (.int .u64 0) (.string ⟨#[]⟩) (.slice none 0 0) (.slice none 0 0) := by rw [hW0]; exact BoxV.new w
 have hg0 : w.grownBy W0 (some g) := rd_grown (grown_refl w _) hb0
 have HNU := Lib.hid (qnum_any g d s 1 W0 hQ0 (by omega))
 have hk := numS1_lt s
 generalize (numS 1 s).2 = s1 at *
 generalize (numS 1 s).1 = k at *
 have hk8 : IntKind.u8.wrap (k : Int) = (k : Int) := by rw [IntKind.wrap_u8]; omega
 have HX0 := Lib.hid hX0
 have HG0 := Lib.hid hg0
 have HS0 := Lib.hid hs0
 clear hQ hb0 hs0 hQ0 hX0 hg0
 have HKK := Lib.hid hkk
 clear hkk
 have HR := Lib.hid hr
 clear hr hM
 go_enter Tryz.func111, Tryz.ntmps111
 go_wp2_with fail
 rw [← hW0]
 have HW0 := Lib.hid hW0
 clear hW0
 refine HNU.out.mono ?_
 rintro e w1 ⟨rfl, hq1, hg1⟩
 have hX1 : BoxV w1 w.heap.size (.int .u8 0) (.int .u64 0) (.string ⟨#[]⟩) (.slice none 0 0) (.slice none 0 0) := (hg1.block _ (by rw [HS0.out]; omega) (fun e => by have := Option.some.inj e; omega)).trans HX0.out
 have hG1 := grown_trans' HG0.out hg1
 have hs1 := hX1.lt
 go_upto_region 3 with fail
 obtain ⟨W2, hW2⟩ : ∃ W2, W2 = w1.alloc (Obj.cells #[.int .u8 k, .int .u64 0, .string ⟨#[]⟩, .slice none 0 0, .slice none 0 0] 63) := ⟨_, rfl⟩
 have hb2 : Below w1.heap.size w1 W2 := by rw [hW2]; exact below_boxV _ _
 have hs2 : W2.heap.size = w1.heap.size + 1 := by rw [hW2]; simp
 have hV2 : BoxV W2 w1.heap.size (.int .u8 k) (.int .u64 0) (.string ⟨#[]⟩) (.slice none 0 0) (.slice none 0 0) := by rw [hW2]; exact BoxV.new w1
 have hX2 := hX1.kept hb2 (Nat.le_refl _)
 have hq2 := hq1.keep hb2.size (hb2.block g hq1.lt) (fun hd => hb2.block d hd)
 have hG2 := rd_grown hG1 hb2
 rw [← hW2]
 clear hW2 hb2 hX1 hq1 hG1 hg1
 have v0 := hV2.c0
 have fv := hV2.fr
 have hgB : g ≠ w1.heap.size := by omega
 have hdB : d ≠ w1.heap.size := by omega
 have HQ2 := Lib.hid hq2
 have HV2 := Lib.hid hV2
 have HX2 := Lib.hid hX2
 have HG2 := Lib.hid hG2
 have HN8 := Lib.hid (fun (q : Int) => qnum_any g d s1 q W2 hq2 (by omega))
 have HT8 := Lib.hid (fun (q : Int) => qtext_any g d s1 q 4096 W2 hq2 (by omega) (by omega) (by omega))
 have HTF := Lib.hid (fun (q : Int) => textS_fst_le q 4096 s1)
 have HNL := Lib.hid (fun (q : Int) => numS_lt q s1)
 clear hq2 hV2 hX2 hG2
 generalize hB : w1.heap.size = B at *
 have hBw : w.heap.size < B := by omega
 clear hs1 hs2 hB
 have hkk := HKK.out
 subst hkk
 clear hk8
 have HRK := Lib.hid (show r = finP (.node 50 (numS 8 s1).1 ⟨#[]⟩ [] []) n (numS 8 s1).2 from by rw [HR.out]; rfl)
 have HNB := Lib.hid (HNL.out 8)
 have HN := Lib.hid (HN8.out 8)
 clear HR HN8 HT8 HTF HNL
 generalize (numS 8 s1).1 = nn at *
 generalize (numS 8 s1).2 = s3 at *
 go_wp2_with fail
 refine HN.out.mono ?_
 rintro e w3 ⟨rfl, hq3, hg3⟩
 have hX3 := (hg3.block w.heap.size HX2.out.lt (fun e => by have := Option.some.inj e; omega)).trans HX2.out
 have hV3 := (hg3.block B HV2.out.lt (fun e => by have := Option.some.inj e; omega)).trans HV2.out
 have hG3 := grown_trans' HG2.out hg3
 have hV4 := heap_setCell_same w3 B 1 _ 63 (.int .u64 (nn : Nat)) hV3
 have hX4 := (Below.heap_setCell w3 ⟨B, 1, none⟩ (.int .u64 (nn : Nat)) w.heap.size (by show w.heap.size ≠ B; omega)).trans hX3
 have hq4 := QS.keep (w' := w3.setCell ⟨B, 1, none⟩ (.int .u64 (nn : Nat))) hq3 (by simp) (Below.heap_setCell _ _ _ _ (by show g ≠ B; omega)) (fun _ => Below.heap_setCell _ _ _ _ (by show d ≠ B; omega))
 have hG4 := grown_setN hG3 (p := B) (by omega) 1 (.int .u64 (nn : Nat))
 have f3 := BoxV.fr hV3 1
 have f4 := BoxV.c1 hV3
 have H4 := Lib.hid (And.intro hV4 (And.intro hX4 (And.intro hq4 hG4)))
 clear hX3 hV3 hq3 hG3 hg3 hV4 hX4 hq4 hG4 v0 fv
 go_upto_region 31 with fail
 obtain ⟨hV3, hX3, hq3, hG3⟩ := H4.out
 clear f3 f4
 generalize w3.setCell ⟨B, 1, none⟩ (.int .u64 (nn : Nat)) = W3 at *
 replace hV3 : BoxV W3 B (.int .u8 50) (.int .u64 (nn : Nat)) (.string ⟨#[]⟩) (.slice none 0 0) (.slice none 0 0) := hV3
 replace hX3 : BoxV W3 w.heap.size (.int .u8 0) (.int .u64 0) (.string ⟨#[]⟩) (.slice none 0 0) (.slice none 0 0) := hX3
 have v0 := hV3.c0
 have v1 := hV3.c1
 have v2 := hV3.c2
 have v3 := hV3.c3
 have v4 := hV3.c4
 have y1 := hq3.c1
 have fz := hX3.fr
 have u0 : W3.drew.cell? ⟨B, 0, none⟩ = _ := v0
 have u1 : W3.drew.cell? ⟨B, 1, none⟩ = _ := v1
 have u2 : W3.drew.cell? ⟨B, 2, none⟩ = _ := v2
 have u3 : W3.drew.cell? ⟨B, 3, none⟩ = _ := v3
 have u4 : W3.drew.cell? ⟨B, 4, none⟩ = _ := v4
 have z1 : W3.drew.cell? ⟨g, 1, none⟩ = _ := y1
 have fd : ∀ i, W3.drew.frozen? ⟨w.heap.size, i, none⟩ = false := fz
 have t0 : W3.drew.cell? ⟨w.heap.size, 0, none⟩ = _ := hX3.c0
 have t1 : W3.drew.cell? ⟨w.heap.size, 1, none⟩ = _ := hX3.c1
 have t2 : W3.drew.cell? ⟨w.heap.size, 2, none⟩ = _ := hX3.c2
 have t3 : W3.drew.cell? ⟨w.heap.size, 3, none⟩ = _ := hX3.c3
 have t4 : W3.drew.cell? ⟨w.heap.size, 4, none⟩ = _ := hX3.c4
 have s0 := hX3.c0
 have s1' := hX3.c1
 have s2' := hX3.c2
 have s3' := hX3.c3
 have s4 := hX3.c4
 have hX3d : BoxV W3.drew w.heap.size (.int .u8 0) (.int .u64 0) (.string ⟨#[]⟩) (.slice none 0 0) (.slice none 0 0) := hX3
 have R5 := Lib.hid (BoxV.drw (BoxV.put5 hX3 (.int .u8 50) (.int .u64 (nn : Nat)) (.string ⟨#[]⟩) (.slice none 0 0) (.slice none 0 0)))
 have HQ5 := Lib.hid (QS.drw (QS.keep (w' := (((((W3.setCell ⟨w.heap.size, 0, none⟩ (.int .u8 50)).setCell ⟨w.heap.size, 1, none⟩ (.int .u64 (nn : Nat))).setCell ⟨w.heap.size, 2, none⟩ (.string ⟨#[]⟩)).setCell ⟨w.heap.size, 3, none⟩ (.slice none 0 0)).setCell ⟨w.heap.size, 4, none⟩ (.slice none 0 0))) hq3 (by simp) ((Below.heap_setCell _ _ _ _ (by show g ≠ w.heap.size; omega)).trans ((Below.heap_setCell _ _ _ _ (by show g ≠ w.heap.size; omega)).trans ((Below.heap_setCell _ _ _ _ (by show g ≠ w.heap.size; omega)).trans ((Below.heap_setCell _ _ _ _ (by show g ≠ w.heap.size; omega)).trans (Below.heap_setCell _ _ _ _ (by show g ≠ w.heap.size; omega)))))) (fun _ => (Below.heap_setCell _ _ _ _ (by show d ≠ w.heap.size; omega)).trans ((Below.heap_setCell _ _ _ _ (by show d ≠ w.heap.size; omega)).trans ((Below.heap_setCell _ _ _ _ (by show d ≠ w.heap.size; omega)).trans ((Below.heap_setCell _ _ _ _ (by show d ≠ w.heap.size; omega)).trans (Below.heap_setCell _ _ _ _ (by show d ≠ w.heap.size; omega))))))))
 have HG5 := Lib.hid (grown_drew (grown_set5 hG3 (Nat.le_refl w.heap.size) (.int .u8 50) (.int .u64 (nn : Nat)) (.string ⟨#[]⟩) (.slice none 0 0) (.slice none 0 0)))
 clear hV3 hq3 hX3 hG3 hX3d
 go_region
 go_wp2_with fail
 refine bodyPost_ret (results_v3 rfl _ _ w.heap.size 63 _ (0, 0) _ rfl R5.out Tryz.underlying63 rfl (by kernel_rfl)) rfl ?_
 rw [HRK.out]
 exact read_end (k := 50) (nn := nn) (st := ⟨#[]⟩) (n := n) rfl rfl HG5.out HQ5.out (fun _ => leaf_shows (by decide) HNB.out (by decide))
end Go.Proofs.YtdklhcmoilcpgaaGreat
namespace Go.Proofs.YtdklhcmoilcpgaaGreat
open Go.RowKit
set_option maxRecDepth 100000 in
set_option maxHeartbeats 16000000 in
theorem read_leaf149 (D n g d : Nat) (s : St) (w : World) (hQ : QS w g d s) (hdg : d ≤ g) (hs : lenS s ≤ 40000) (hD : D ≤ 6) (hn : n < 200) (hkk : (numS 1 s).1 = 149) :
  Calls Tryz.prog 111 #[.pointer (some ⟨g, 0, none⟩), .int .i64 D, .int .i64 ((n + 1 : Nat) : Int)] w (ReadSaid g d w (if (numS 1 s).1 = 8 ∨ (numS 1 s).1 = 2 then finP (.node (numS 1 s).1 (numS 1 (numS 1 s).2).1 ⟨#[]⟩ [] []) n (numS 1 (numS 1 s).2).2 else if (numS 1 s).1 = 49 ∨ (numS 1 s).1 = 50 then finP (.node (numS 1 s).1 (numS 8 (numS 1 s).2).1 ⟨#[]⟩ [] []) n (numS 8 (numS 1 s).2).2 else if (numS 1 s).1 = 149 then finP (.node (numS 1 s).1 0 (str8 (textS 2 4096 (numS 1 s).2).1) [] []) n (textS 2 4096 (numS 1 s).2).2 else if (numS 1 s).1 = 160 then finP (.node (numS 1 s).1 0 (str8 (textS 4 4096 (numS 1 s).2).1) [] []) n (textS 4 4096 (numS 1 s).2).2 else finP (.node (numS 1 s).1 0 ⟨#[]⟩ [] []) n (numS 1 s).2)) := by
 obtain ⟨M, hM⟩ : ∃ M : Nat, M = n + 1 := ⟨_, rfl⟩
 rw [← hM]
 have hM1 : (M : Int) - 1 = (n : Int) := by omega
 have hM2 : (M : Int) ≤ 200 := by omega
 have hM3 : decide ((n : Int) < 0) = false := by simp
 have hD6 : ¬ (6 : Int) < (D : Int) := by omega
 have hs1l : lenS (numS 1 s).2 ≤ 40000 := Nat.le_trans (numS_lenS 1 s) hs
 obtain ⟨r, hr⟩ : ∃ r, r = if (numS 1 s).1 = 8 ∨ (numS 1 s).1 = 2 then finP (.node (numS 1 s).1 (numS 1 (numS 1 s).2).1 ⟨#[]⟩ [] []) n (numS 1 (numS 1 s).2).2 else if (numS 1 s).1 = 49 ∨ (numS 1 s).1 = 50 then finP (.node (numS 1 s).1 (numS 8 (numS 1 s).2).1 ⟨#[]⟩ [] []) n (numS 8 (numS 1 s).2).2 else if (numS 1 s).1 = 149 then finP (.node (numS 1 s).1 0 (str8 (textS 2 4096 (numS 1 s).2).1) [] []) n (textS 2 4096 (numS 1 s).2).2 else if (numS 1 s).1 = 160 then finP (.node (numS 1 s).1 0 (str8 (textS 4 4096 (numS 1 s).2).1) [] []) n (textS 4 4096 (numS 1 s).2).2 else finP (.node (numS 1 s).1 0 ⟨#[]⟩ [] []) n (numS 1 s).2 := ⟨_, rfl⟩
 rw [← hr]
 have hglt := hQ.lt
 obtain ⟨W0, hW0⟩ : ∃ W0, W0 = w.alloc (Obj.cells #[.int .u8 0, .int .u64 0, .string ⟨#[]⟩, .slice none 0 0, .slice none 0 0] 63) := ⟨_, rfl⟩
 have hb0 : Below w.heap.size w W0 := by rw [hW0]; exact below_boxV _ _
 have hs0 : W0.heap.size = w.heap.size + 1 := by rw [hW0]; simp
 have hQ0 := hQ.keep hb0.size (hb0.block g hglt) (fun hd => hb0.block d hd)
 have hX0 : BoxV W0 w.heap.size (.int .u8 0) (.int .u64 0) (.string ⟨#[]⟩) (.slice none 0 0) (.slice none 0 0) := by rw [hW0]; exact BoxV.new w
 have hg0 : w.grownBy W0 (some g) := rd_grown (grown_refl w _) hb0
 have HNU := Lib.hid (qnum_any g d s 1 W0 hQ0 (by omega))
 have hk := numS1_lt s
 generalize (numS 1 s).2 = s1 at *
 generalize (numS 1 s).1 = k at *
 have hk8 : IntKind.u8.wrap (k : Int) = (k : Int) := by rw [IntKind.wrap_u8]; omega
 have HX0 := Lib.hid hX0
 have HG0 := Lib.hid hg0
 have HS0 := Lib.hid hs0
 clear hQ hb0 hs0 hQ0 hX0 hg0
 have HKK := Lib.hid hkk
 clear hkk
 have HR := Lib.hid hr
 clear hr hM
 go_enter Tryz.func111, Tryz.ntmps111
 go_wp2_with fail
 rw [← hW0]
 have HW0 := Lib.hid hW0
 clear hW0
 refine HNU.out.mono ?_
 rintro e w1 ⟨rfl, hq1, hg1⟩
 have hX1 : BoxV w1 w.heap.size (.int .u8 0) (.int .u64 0) (.string ⟨#[]⟩) (.slice none 0 0) (.slice none 0 0) := (hg1.block _ (by rw [HS0.out]; omega) (fun e => by have := Option.some.inj e; omega)).trans HX0.out
 have hG1 := grown_trans' HG0.out hg1
 have hs1 := hX1.lt
 go_upto_region 3 with fail
 obtain ⟨W2, hW2⟩ : ∃ W2, W2 = w1.alloc (Obj.cells #[.int .u8 k, .int .u64 0, .string ⟨#[]⟩, .slice none 0 0, .slice none 0 0] 63) := ⟨_, rfl⟩
 have hb2 : Below w1.heap.size w1 W2 := by rw [hW2]; exact below_boxV _ _
 have hs2 : W2.heap.size = w1.heap.size + 1 := by rw [hW2]; simp
 have hV2 : BoxV W2 w1.heap.size (.int .u8 k) (.int .u64 0) (.string ⟨#[]⟩) (.slice none 0 0) (.slice none 0 0) := by rw [hW2]; exact BoxV.new w1
 have hX2 := hX1.kept hb2 (Nat.le_refl _)
 have hq2 := hq1.keep hb2.size (hb2.block g hq1.lt) (fun hd => hb2.block d hd)
 have hG2 := rd_grown hG1 hb2
 rw [← hW2]
 clear hW2 hb2 hX1 hq1 hG1 hg1
 have v0 := hV2.c0
 have fv := hV2.fr
 have hgB : g ≠ w1.heap.size := by omega
 have hdB : d ≠ w1.heap.size := by omega
 have HQ2 := Lib.hid hq2
 have HV2 := Lib.hid hV2
 have HX2 := Lib.hid hX2
 have HG2 := Lib.hid hG2
 have HN8 := Lib.hid (fun (q : Int) => qnum_any g d s1 q W2 hq2 (by omega))
 have HT8 := Lib.hid (fun (q : Int) => qtext_any g d s1 q 4096 W2 hq2 (by omega) (by omega) (by omega))
 have HTF := Lib.hid (fun (q : Int) => textS_fst_le q 4096 s1)
 have HNL := Lib.hid (fun (q : Int) => numS_lt q s1)
 clear hq2 hV2 hX2 hG2
 generalize hB : w1.heap.size = B at *
 have hBw : w.heap.size < B := by omega
 clear hs1 hs2 hB
 have hkk := HKK.out
 subst hkk
 clear hk8
 have HRK := Lib.hid (show r = finP (.node 149 0 (str8 (textS 2 4096 s1).1) [] []) n (textS 2 4096 s1).2 from by rw [HR.out]; rfl)
 have HSB := Lib.hid (show (str8 (textS 2 4096 s1).1).size ≤ 140737488351232 from by rw [str8_size]; have := HTF.out 2; omega)
 have HN := Lib.hid (HT8.out 2)
 clear HR HN8 HT8 HTF HNL
 generalize str8 (textS 2 4096 s1).1 = st at *
 generalize (textS 2 4096 s1).2 = s3 at *
 go_wp2_with fail
 refine HN.out.mono ?_
 rintro e w3 ⟨rfl, hq3, hg3⟩
 have hX3 := (hg3.block w.heap.size HX2.out.lt (fun e => by have := Option.some.inj e; omega)).trans HX2.out
 have hV3 := (hg3.block B HV2.out.lt (fun e => by have := Option.some.inj e; omega)).trans HV2.out
 have hG3 := grown_trans' HG2.out hg3
 have hV4 := heap_setCell_same w3 B 2 _ 63 (.string st) hV3
 have hX4 := (Below.heap_setCell w3 ⟨B, 2, none⟩ (.string st) w.heap.size (by show w.heap.size ≠ B; omega)).trans hX3
 have hq4 := QS.keep (w' := w3.setCell ⟨B, 2, none⟩ (.string st)) hq3 (by simp) (Below.heap_setCell _ _ _ _ (by show g ≠ B; omega)) (fun _ => Below.heap_setCell _ _ _ _ (by show d ≠ B; omega))
 have hG4 := grown_setN hG3 (p := B) (by omega) 2 (.string st)
 have f3 := BoxV.fr hV3 2
 have f4 := BoxV.c2 hV3
 have H4 := Lib.hid (And.intro hV4 (And.intro hX4 (And.intro hq4 hG4)))
 clear hX3 hV3 hq3 hG3 hg3 hV4 hX4 hq4 hG4 v0 fv
 go_upto_region 31 with fail
 obtain ⟨hV3, hX3, hq3, hG3⟩ := H4.out
 clear f3 f4
 generalize w3.setCell ⟨B, 2, none⟩ (.string st) = W3 at *
 replace hV3 : BoxV W3 B (.int .u8 149) (.int .u64 (0 : Nat)) (.string st) (.slice none 0 0) (.slice none 0 0) := hV3
 replace hX3 : BoxV W3 w.heap.size (.int .u8 0) (.int .u64 0) (.string ⟨#[]⟩) (.slice none 0 0) (.slice none 0 0) := hX3
 have v0 := hV3.c0
 have v1 := hV3.c1
 have v2 := hV3.c2
 have v3 := hV3.c3
 have v4 := hV3.c4
 have y1 := hq3.c1
 have fz := hX3.fr
 have u0 : W3.drew.cell? ⟨B, 0, none⟩ = _ := v0
 have u1 : W3.drew.cell? ⟨B, 1, none⟩ = _ := v1
 have u2 : W3.drew.cell? ⟨B, 2, none⟩ = _ := v2
 have u3 : W3.drew.cell? ⟨B, 3, none⟩ = _ := v3
 have u4 : W3.drew.cell? ⟨B, 4, none⟩ = _ := v4
 have z1 : W3.drew.cell? ⟨g, 1, none⟩ = _ := y1
 have fd : ∀ i, W3.drew.frozen? ⟨w.heap.size, i, none⟩ = false := fz
 have t0 : W3.drew.cell? ⟨w.heap.size, 0, none⟩ = _ := hX3.c0
 have t1 : W3.drew.cell? ⟨w.heap.size, 1, none⟩ = _ := hX3.c1
 have t2 : W3.drew.cell? ⟨w.heap.size, 2, none⟩ = _ := hX3.c2
 have t3 : W3.drew.cell? ⟨w.heap.size, 3, none⟩ = _ := hX3.c3
 have t4 : W3.drew.cell? ⟨w.heap.size, 4, none⟩ = _ := hX3.c4
 have s0 := hX3.c0
 have s1' := hX3.c1
 have s2' := hX3.c2
 have s3' := hX3.c3
 have s4 := hX3.c4
 have hX3d : BoxV W3.drew w.heap.size (.int .u8 0) (.int .u64 0) (.string ⟨#[]⟩) (.slice none 0 0) (.slice none 0 0) := hX3
 have R5 := Lib.hid (BoxV.drw (BoxV.put5 hX3 (.int .u8 149) (.int .u64 (0 : Nat)) (.string st) (.slice none 0 0) (.slice none 0 0)))
 have HQ5 := Lib.hid (QS.drw (QS.keep (w' := (((((W3.setCell ⟨w.heap.size, 0, none⟩ (.int .u8 149)).setCell ⟨w.heap.size, 1, none⟩ (.int .u64 (0 : Nat))).setCell ⟨w.heap.size, 2, none⟩ (.string st)).setCell ⟨w.heap.size, 3, none⟩ (.slice none 0 0)).setCell ⟨w.heap.size, 4, none⟩ (.slice none 0 0))) hq3 (by simp) ((Below.heap_setCell _ _ _ _ (by show g ≠ w.heap.size; omega)).trans ((Below.heap_setCell _ _ _ _ (by show g ≠ w.heap.size; omega)).trans ((Below.heap_setCell _ _ _ _ (by show g ≠ w.heap.size; omega)).trans ((Below.heap_setCell _ _ _ _ (by show g ≠ w.heap.size; omega)).trans (Below.heap_setCell _ _ _ _ (by show g ≠ w.heap.size; omega)))))) (fun _ => (Below.heap_setCell _ _ _ _ (by show d ≠ w.heap.size; omega)).trans ((Below.heap_setCell _ _ _ _ (by show d ≠ w.heap.size; omega)).trans ((Below.heap_setCell _ _ _ _ (by show d ≠ w.heap.size; omega)).trans ((Below.heap_setCell _ _ _ _ (by show d ≠ w.heap.size; omega)).trans (Below.heap_setCell _ _ _ _ (by show d ≠ w.heap.size; omega))))))))
 have HG5 := Lib.hid (grown_drew (grown_set5 hG3 (Nat.le_refl w.heap.size) (.int .u8 149) (.int .u64 (0 : Nat)) (.string st) (.slice none 0 0) (.slice none 0 0)))
 clear hV3 hq3 hX3 hG3 hX3d
 go_region
 go_wp2_with fail
 refine bodyPost_ret (results_v3 rfl _ _ w.heap.size 63 _ (0, 0) _ rfl R5.out Tryz.underlying63 rfl (by kernel_rfl)) rfl ?_
 rw [HRK.out]
 exact read_end (k := 149) (nn := 0) (st := st) (n := n) rfl rfl HG5.out HQ5.out (fun _ => leaf_shows (by decide) (by decide) HSB.out)
end Go.Proofs.YtdklhcmoilcpgaaGreat
namespace Go.Proofs.YtdklhcmoilcpgaaGreat
open Go.RowKit
set_option maxRecDepth 100000 in
set_option maxHeartbeats 16000000 in
theorem read_leaf160 (D n g d : Nat) (s : St) (w : World) (hQ : QS w g d s) (hdg : d ≤ g) (hs : lenS s ≤ 40000) (hD : D ≤ 6) (hn : n < 200) (hkk : (numS 1 s).1 = 160) :
  Calls Tryz.prog 111 #[.pointer (some ⟨g, 0, none⟩), .int .i64 D, .int .i64 ((n + 1 : Nat) : Int)] w (ReadSaid g d w (if (numS 1 s).1 = 8 ∨ (numS 1 s).1 = 2 then finP (.node (numS 1 s).1 (numS 1 (numS 1 s).2).1 ⟨#[]⟩ [] []) n (numS 1 (numS 1 s).2).2 else if (numS 1 s).1 = 49 ∨ (numS 1 s).1 = 50 then finP (.node (numS 1 s).1 (numS 8 (numS 1 s).2).1 ⟨#[]⟩ [] []) n (numS 8 (numS 1 s).2).2 else if (numS 1 s).1 = 149 then finP (.node (numS 1 s).1 0 (str8 (textS 2 4096 (numS 1 s).2).1) [] []) n (textS 2 4096 (numS 1 s).2).2 else if (numS 1 s).1 = 160 then finP (.node (numS 1 s).1 0 (str8 (textS 4 4096 (numS 1 s).2).1) [] []) n (textS 4 4096 (numS 1 s).2).2 else finP (.node (numS 1 s).1 0 ⟨#[]⟩ [] []) n (numS 1 s).2)) := by
 obtain ⟨M, hM⟩ : ∃ M : Nat, M = n + 1 := ⟨_, rfl⟩
 rw [← hM]
 have hM1 : (M : Int) - 1 = (n : Int) := by omega
 have hM2 : (M : Int) ≤ 200 := by omega
 have hM3 : decide ((n : Int) < 0) = false := by simp
 have hD6 : ¬ (6 : Int) < (D : Int) := by omega
 have hs1l : lenS (numS 1 s).2 ≤ 40000 := Nat.le_trans (numS_lenS 1 s) hs
 obtain ⟨r, hr⟩ : ∃ r, r = if (numS 1 s).1 = 8 ∨ (numS 1 s).1 = 2 then finP (.node (numS 1 s).1 (numS 1 (numS 1 s).2).1 ⟨#[]⟩ [] []) n (numS 1 (numS 1 s).2).2 else if (numS 1 s).1 = 49 ∨ (numS 1 s).1 = 50 then finP (.node (numS 1 s).1 (numS 8 (numS 1 s).2).1 ⟨#[]⟩ [] []) n (numS 8 (numS 1 s).2).2 else if (numS 1 s).1 = 149 then finP (.node (numS 1 s).1 0 (str8 (textS 2 4096 (numS 1 s).2).1) [] []) n (textS 2 4096 (numS 1 s).2).2 else if (numS 1 s).1 = 160 then finP (.node (numS 1 s).1 0 (str8 (textS 4 4096 (numS 1 s).2).1) [] []) n (textS 4 4096 (numS 1 s).2).2 else finP (.node (numS 1 s).1 0 ⟨#[]⟩ [] []) n (numS 1 s).2 := ⟨_, rfl⟩
 rw [← hr]
 have hglt := hQ.lt
 obtain ⟨W0, hW0⟩ : ∃ W0, W0 = w.alloc (Obj.cells #[.int .u8 0, .int .u64 0, .string ⟨#[]⟩, .slice none 0 0, .slice none 0 0] 63) := ⟨_, rfl⟩
 have hb0 : Below w.heap.size w W0 := by rw [hW0]; exact below_boxV _ _
 have hs0 : W0.heap.size = w.heap.size + 1 := by rw [hW0]; simp
 have hQ0 := hQ.keep hb0.size (hb0.block g hglt) (fun hd => hb0.block d hd)
 have hX0 : BoxV W0 w.heap.size (.int .u8 0) (.int .u64 0) (.string ⟨#[]⟩) (.slice none 0 0) (.slice none 0 0) := by rw [hW0]; exact BoxV.new w
 have hg0 : w.grownBy W0 (some g) := rd_grown (grown_refl w _) hb0
 have HNU := Lib.hid (qnum_any g d s 1 W0 hQ0 (by omega))
 have hk := numS1_lt s
 generalize (numS 1 s).2 = s1 at *
 generalize (numS 1 s).1 = k at *
 have hk8 : IntKind.u8.wrap (k : Int) = (k : Int) := by rw [IntKind.wrap_u8]; omega
 have HX0 := Lib.hid hX0
 have HG0 := Lib.hid hg0
 have HS0 := Lib.hid hs0
 clear hQ hb0 hs0 hQ0 hX0 hg0
 have HKK := Lib.hid hkk
 clear hkk
 have HR := Lib.hid hr
 clear hr hM
 go_enter Tryz.func111, Tryz.ntmps111
 go_wp2_with fail
 rw [← hW0]
 have HW0 := Lib.hid hW0
 clear hW0
 refine HNU.out.mono ?_
 rintro e w1 ⟨rfl, hq1, hg1⟩
 have hX1 : BoxV w1 w.heap.size (.int .u8 0) (.int .u64 0) (.string ⟨#[]⟩) (.slice none 0 0) (.slice none 0 0) := (hg1.block _ (by rw [HS0.out]; omega) (fun e => by have := Option.some.inj e; omega)).trans HX0.out
 have hG1 := grown_trans' HG0.out hg1
 have hs1 := hX1.lt
 go_upto_region 3 with fail
 obtain ⟨W2, hW2⟩ : ∃ W2, W2 = w1.alloc (Obj.cells #[.int .u8 k, .int .u64 0, .string ⟨#[]⟩, .slice none 0 0, .slice none 0 0] 63) := ⟨_, rfl⟩
 have hb2 : Below w1.heap.size w1 W2 := by rw [hW2]; exact below_boxV _ _
 have hs2 : W2.heap.size = w1.heap.size + 1 := by rw [hW2]; simp
 have hV2 : BoxV W2 w1.heap.size (.int .u8 k) (.int .u64 0) (.string ⟨#[]⟩) (.slice none 0 0) (.slice none 0 0) := by rw [hW2]; exact BoxV.new w1
 have hX2 := hX1.kept hb2 (Nat.le_refl _)
 have hq2 := hq1.keep hb2.size (hb2.block g hq1.lt) (fun hd => hb2.block d hd)
 have hG2 := rd_grown hG1 hb2
 rw [← hW2]
 clear hW2 hb2 hX1 hq1 hG1 hg1
 have v0 := hV2.c0
 have fv := hV2.fr
 have hgB : g ≠ w1.heap.size := by omega
 have hdB : d ≠ w1.heap.size := by omega
 have HQ2 := Lib.hid hq2
 have HV2 := Lib.hid hV2
 have HX2 := Lib.hid hX2
 have HG2 := Lib.hid hG2
 have HN8 := Lib.hid (fun (q : Int) => qnum_any g d s1 q W2 hq2 (by omega))
 have HT8 := Lib.hid (fun (q : Int) => qtext_any g d s1 q 4096 W2 hq2 (by omega) (by omega) (by omega))
 have HTF := Lib.hid (fun (q : Int) => textS_fst_le q 4096 s1)
 have HNL := Lib.hid (fun (q : Int) => numS_lt q s1)
 clear hq2 hV2 hX2 hG2
 generalize hB : w1.heap.size = B at *
 have hBw : w.heap.size < B := by omega
 clear hs1 hs2 hB
 have hkk := HKK.out
 subst hkk
 clear hk8
 have HRK := Lib.hid (show r = finP (.node 160 0 (str8 (textS 4 4096 s1).1) [] []) n (textS 4 4096 s1).2 from by rw [HR.out]; rfl)
 have HSB := Lib.hid (show (str8 (textS 4 4096 s1).1).size ≤ 140737488351232 from by rw [str8_size]; have := HTF.out 4; omega)
 have HN := Lib.hid (HT8.out 4)
 clear HR HN8 HT8 HTF HNL
 generalize str8 (textS 4 4096 s1).1 = st at *
 generalize (textS 4 4096 s1).2 = s3 at *
 go_wp2_with fail
 refine HN.out.mono ?_
 rintro e w3 ⟨rfl, hq3, hg3⟩
 have hX3 := (hg3.block w.heap.size HX2.out.lt (fun e => by have := Option.some.inj e; omega)).trans HX2.out
 have hV3 := (hg3.block B HV2.out.lt (fun e => by have := Option.some.inj e; omega)).trans HV2.out
 have hG3 := grown_trans' HG2.out hg3
 have hV4 := heap_setCell_same w3 B 2 _ 63 (.string st) hV3
 have hX4 := (Below.heap_setCell w3 ⟨B, 2, none⟩ (.string st) w.heap.size (by show w.heap.size ≠ B; omega)).trans hX3
 have hq4 := QS.keep (w' := w3.setCell ⟨B, 2, none⟩ (.string st)) hq3 (by simp) (Below.heap_setCell _ _ _ _ (by show g ≠ B; omega)) (fun _ => Below.heap_setCell _ _ _ _ (by show d ≠ B; omega))
 have hG4 := grown_setN hG3 (p := B) (by omega) 2 (.string st)
 have f3 := BoxV.fr hV3 2
 have f4 := BoxV.c2 hV3
 have H4 := Lib.hid (And.intro hV4 (And.intro hX4 (And.intro hq4 hG4)))
 clear hX3 hV3 hq3 hG3 hg3 hV4 hX4 hq4 hG4 v0 fv
 go_upto_region 31 with fail
 obtain ⟨hV3, hX3, hq3, hG3⟩ := H4.out
 clear f3 f4
 generalize w3.setCell ⟨B, 2, none⟩ (.string st) = W3 at *
 replace hV3 : BoxV W3 B (.int .u8 160) (.int .u64 (0 : Nat)) (.string st) (.slice none 0 0) (.slice none 0 0) := hV3
 replace hX3 : BoxV W3 w.heap.size (.int .u8 0) (.int .u64 0) (.string ⟨#[]⟩) (.slice none 0 0) (.slice none 0 0) := hX3
 have v0 := hV3.c0
 have v1 := hV3.c1
 have v2 := hV3.c2
 have v3 := hV3.c3
 have v4 := hV3.c4
 have y1 := hq3.c1
 have fz := hX3.fr
 have u0 : W3.drew.cell? ⟨B, 0, none⟩ = _ := v0
 have u1 : W3.drew.cell? ⟨B, 1, none⟩ = _ := v1
 have u2 : W3.drew.cell? ⟨B, 2, none⟩ = _ := v2
 have u3 : W3.drew.cell? ⟨B, 3, none⟩ = _ := v3
 have u4 : W3.drew.cell? ⟨B, 4, none⟩ = _ := v4
 have z1 : W3.drew.cell? ⟨g, 1, none⟩ = _ := y1
 have fd : ∀ i, W3.drew.frozen? ⟨w.heap.size, i, none⟩ = false := fz
 have t0 : W3.drew.cell? ⟨w.heap.size, 0, none⟩ = _ := hX3.c0
 have t1 : W3.drew.cell? ⟨w.heap.size, 1, none⟩ = _ := hX3.c1
 have t2 : W3.drew.cell? ⟨w.heap.size, 2, none⟩ = _ := hX3.c2
 have t3 : W3.drew.cell? ⟨w.heap.size, 3, none⟩ = _ := hX3.c3
 have t4 : W3.drew.cell? ⟨w.heap.size, 4, none⟩ = _ := hX3.c4
 have s0 := hX3.c0
 have s1' := hX3.c1
 have s2' := hX3.c2
 have s3' := hX3.c3
 have s4 := hX3.c4
 have hX3d : BoxV W3.drew w.heap.size (.int .u8 0) (.int .u64 0) (.string ⟨#[]⟩) (.slice none 0 0) (.slice none 0 0) := hX3
 have R5 := Lib.hid (BoxV.drw (BoxV.put5 hX3 (.int .u8 160) (.int .u64 (0 : Nat)) (.string st) (.slice none 0 0) (.slice none 0 0)))
 have HQ5 := Lib.hid (QS.drw (QS.keep (w' := (((((W3.setCell ⟨w.heap.size, 0, none⟩ (.int .u8 160)).setCell ⟨w.heap.size, 1, none⟩ (.int .u64 (0 : Nat))).setCell ⟨w.heap.size, 2, none⟩ (.string st)).setCell ⟨w.heap.size, 3, none⟩ (.slice none 0 0)).setCell ⟨w.heap.size, 4, none⟩ (.slice none 0 0))) hq3 (by simp) ((Below.heap_setCell _ _ _ _ (by show g ≠ w.heap.size; omega)).trans ((Below.heap_setCell _ _ _ _ (by show g ≠ w.heap.size; omega)).trans ((Below.heap_setCell _ _ _ _ (by show g ≠ w.heap.size; omega)).trans ((Below.heap_setCell _ _ _ _ (by show g ≠ w.heap.size; omega)).trans (Below.heap_setCell _ _ _ _ (by show g ≠ w.heap.size; omega)))))) (fun _ => (Below.heap_setCell _ _ _ _ (by show d ≠ w.heap.size; omega)).trans ((Below.heap_setCell _ _ _ _ (by show d ≠ w.heap.size; omega)).trans ((Below.heap_setCell _ _ _ _ (by show d ≠ w.heap.size; omega)).trans ((Below.heap_setCell _ _ _ _ (by show d ≠ w.heap.size; omega)).trans (Below.heap_setCell _ _ _ _ (by show d ≠ w.heap.size; omega))))))))
 have HG5 := Lib.hid (grown_drew (grown_set5 hG3 (Nat.le_refl w.heap.size) (.int .u8 160) (.int .u64 (0 : Nat)) (.string st) (.slice none 0 0) (.slice none 0 0)))
 clear hV3 hq3 hX3 hG3 hX3d
 go_region
 go_wp2_with fail
 refine bodyPost_ret (results_v3 rfl _ _ w.heap.size 63 _ (0, 0) _ rfl R5.out Tryz.underlying63 rfl (by kernel_rfl)) rfl ?_
 rw [HRK.out]
 exact read_end (k := 160) (nn := 0) (st := st) (n := n) rfl rfl HG5.out HQ5.out (fun _ => leaf_shows (by decide) (by decide) HSB.out)
end Go.Proofs.YtdklhcmoilcpgaaGreat
