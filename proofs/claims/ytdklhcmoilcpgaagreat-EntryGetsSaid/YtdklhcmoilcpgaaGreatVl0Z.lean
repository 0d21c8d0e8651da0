/-
  The document's own read of values: values without a list.
  Conditions: at most 40000 bytes are left, at most 200 values.
-/
import Derived.Deep.RegionHeld3
import Derived.Test.YtdklhcmoilcpgaaGreatVgAZ
namespace Go.Proofs.YtdklhcmoilcpgaaGreat
open Go.RowKit
set_option linter.unusedVariables false
set_option linter.unusedSimpArgs false
set_option maxRecDepth 100000 in
set_option maxHeartbeats 16000000 in
theorem read_leaf0 (D n g d : Nat) (s : St) (w : World) (hQ : QS w g d s) (hdg : d ≤ g) (hs : lenS s ≤ 40000) (hD : D ≤ 6) (hn : n < 200) (hkl : (numS 1 s).1 ≠ 168 ∧ (numS 1 s).1 ≠ 169) (hK8 : (numS 1 s).1 ≠ 8) (hK2 : (numS 1 s).1 ≠ 2) (hK49 : (numS 1 s).1 ≠ 49) (hK50 : (numS 1 s).1 ≠ 50) (hK149 : (numS 1 s).1 ≠ 149) (hK160 : (numS 1 s).1 ≠ 160) :
  Calls Tryz.prog 111 #[.pointer (some ⟨g, 0, none⟩), .int .i64 D, .int .i64 ((n + 1 : Nat) : Int)] w (ReadSaid g d w (if (numS 1 s).1 = 8 ∨ (numS 1 s).1 = 2 then finP (.node (numS 1 s).1 (numS 1 (numS 1 s).2).1 ⟨#[]⟩ [] []) n (numS 1 (numS 1 s).2).2 else if (numS 1 s).1 = 49 ∨ (numS 1 s).1 = 50 then finP (.node (numS 1 s).1 (numS 8 (numS 1 s).2).1 ⟨#[]⟩ [] []) n (numS 8 (numS 1 s).2).2 else if (numS 1 s).1 = 149 then finP (.node (numS 1 s).1 0 (str8 (textS 2 4096 (numS 1 s).2).1) [] []) n (textS 2 4096 (numS 1 s).2).2 else if (numS 1 s).1 = 160 then finP (.node (numS 1 s).1 0 (str8 (textS 4 4096 (numS 1 s).2).1) [] []) n (textS 4 4096 (numS 1 s).2).2 else finP (.node (numS 1 s).1 0 ⟨#[]⟩ [] []) n (numS 1 s).2)) := by
 obtain ⟨M, hM⟩ : ∃ M : Nat, M = n + 1 := ⟨_, rfl⟩
 rw [← hM]
 have hM1 : (M : Int) - 1 = (n : Int) := by omega
 have hM2 : (M : Int) ≤ 200 := by omega
 have hM3 : decide ((n : Int) < 0) = false := by simp
 have hD6 : ¬ (6 : Int) < (D : Int) := by omega
 have hs1l : lenS (numS 1 s).2 ≤ 40000 := Nat.le_trans (numS_lenS 1 s) hs
 obtain ⟨r, hr⟩ : ∃ r, r = if (numS 1 s).1 = 8 ∨ (numS 1 s).1 = 2 then finP (.node (numS 1 s).1 (numS 1 (numS 1 s).2).1 ⟨#[]⟩ [] []) n (numS 1 (numS 1 s).2).2 else if (numS 1 s).1 = 49 ∨ (numS 1 s).1 = 50 then finP (.node (numS 1 s).1 (numS 8 (numS 1 s).2).1 ⟨#[]⟩ [] []) n (numS 8 (numS 1 s).2).2 else if (numS 1 s).1 = 149 then finP (.node (numS 1 s).1 0 (str8 (textS 2 4096 (numS 1 s).2).1) [] []) n (textS 2 4096 (numS 1 s).2).2 else if (numS 1 s).1 = 160 then finP (.node (numS 1 s).1 0 (str8 (textS 4 4096 (numS 1 s).2).1) [] []) n (textS 4 4096 (numS 1 s).2).2 else finP (.node (numS 1 s).1 0 ⟨#[]⟩ [] []) n (numS 1 s).2 := ⟨_, rfl⟩
 rw [← hr]
 have hglt := hQ.lt
 obtain ⟨W0, hW0⟩ : ∃ W0, W0 = w.alloc (Obj.cells #[.int .u8 0, .int .u64 0, .string ⟨#[]⟩, .slice none 0 0, .slice none 0 0] 63) := ⟨_, rfl⟩
 have hb0 : Below w.heap.size w W0 := by rw [hW0]; exact below_boxV _ _
 have hs0 : W0.heap.size = w.heap.size + 1 := by rw [hW0]; simp
 have hQ0 := hQ.keep hb0.size (hb0.block g hglt) (fun hd => hb0.block d hd)
 have hX0 : BoxV W0 w.heap.size (.int .u8 0) (.int .u64 0) (.string ⟨#[]⟩) (.slice none 0 0) (.slice none 0 0) := by rw [hW0]; exact BoxV.new w
 have hg0 : w.grownBy W0 (some g) := rd_grown (grown_refl w _) hb0
 have HNU := Lib.hid (qnum_any g d s 1 W0 hQ0 (by omega))
 have hk := numS1_lt s
 generalize (numS 1 s).2 = s1 at *
 generalize (numS 1 s).1 = k at *
 have hk8 : IntKind.u8.wrap (k : Int) = (k : Int) := by rw [IntKind.wrap_u8]; omega
 have HX0 := Lib.hid hX0
 have HG0 := Lib.hid hg0
 have HS0 := Lib.hid hs0
 clear hQ hb0 hs0 hQ0 hX0 hg0
 have HR := Lib.hid hr
 clear hr hM
 go_enter Tryz.func111, Tryz.ntmps111
 go_wp2_with fail
 rw [← hW0]
 have HW0 := Lib.hid hW0
 clear hW0
 refine HNU.out.mono ?_
 rintro e w1 ⟨rfl, hq1, hg1⟩
 have hX1 : BoxV w1 w.heap.size (.int .u8 0) (.int .u64 0) (.string ⟨#[]⟩) (.slice none 0 0) (.slice none 0 0) := (hg1.block _ (by rw [HS0.out]; omega) (fun e => by have := Option.some.inj e; omega)).trans HX0.out
 have hG1 := grown_trans' HG0.out hg1
 have hs1 := hX1.lt
 go_upto_region 3 with fail
 obtain ⟨W2, hW2⟩ : ∃ W2, W2 = w1.alloc (Obj.cells #[.int .u8 k, .int .u64 0, .string ⟨#[]⟩, .slice none 0 0, .slice none 0 0] 63) := ⟨_, rfl⟩
 have hb2 : Below w1.heap.size w1 W2 := by rw [hW2]; exact below_boxV _ _
 have hs2 : W2.heap.size = w1.heap.size + 1 := by rw [hW2]; simp
 have hV2 : BoxV W2 w1.heap.size (.int .u8 k) (.int .u64 0) (.string ⟨#[]⟩) (.slice none 0 0) (.slice none 0 0) := by rw [hW2]; exact BoxV.new w1
 have hX2 := hX1.kept hb2 (Nat.le_refl _)
 have hq2 := hq1.keep hb2.size (hb2.block g hq1.lt) (fun hd => hb2.block d hd)
 have hG2 := rd_grown hG1 hb2
 rw [← hW2]
 clear hW2 hb2 hX1 hq1 hG1 hg1
 have v0 := hV2.c0
 have fv := hV2.fr
 have hgB : g ≠ w1.heap.size := by omega
 have hdB : d ≠ w1.heap.size := by omega
 have HQ2 := Lib.hid hq2
 have HV2 := Lib.hid hV2
 have HX2 := Lib.hid hX2
 have HG2 := Lib.hid hG2
 have HN8 := Lib.hid (fun (q : Int) => qnum_any g d s1 q W2 hq2 (by omega))
 have HT8 := Lib.hid (fun (q : Int) => qtext_any g d s1 q 4096 W2 hq2 (by omega) (by omega) (by omega))
 have HTF := Lib.hid (fun (q : Int) => textS_fst_le q 4096 s1)
 have HNL := Lib.hid (fun (q : Int) => numS_lt q s1)
 clear hq2 hV2 hX2 hG2
 generalize hB : w1.heap.size = B at *
 have hBw : w.heap.size < B := by omega
 clear hs1 hs2 hB
 have e8 : ((k : Int) == 8) = false := by rw [beq_eq_false_iff_ne]; omega
 have e2 : ((k : Int) == 2) = false := by rw [beq_eq_false_iff_ne]; omega
 have e49 : ((k : Int) == 49) = false := by rw [beq_eq_false_iff_ne]; omega
 have e50 : ((k : Int) == 50) = false := by rw [beq_eq_false_iff_ne]; omega
 have e149 : ((k : Int) == 149) = false := by rw [beq_eq_false_iff_ne]; omega
 have e160 : ((k : Int) == 160) = false := by rw [beq_eq_false_iff_ne]; omega
 have e168 : ((k : Int) == 168) = false := by rw [beq_eq_false_iff_ne]; have := hkl.1; omega
 have e169 : ((k : Int) == 169) = false := by rw [beq_eq_false_iff_ne]; have := hkl.2; omega
 have HRK := Lib.hid (show r = finP (.node k 0 ⟨#[]⟩ [] []) n s1 from by rw [HR.out, if_neg (by omega), if_neg (by omega), if_neg (by omega), if_neg (by omega)])
 clear HR HN8 HT8 HTF HNL hK8 hK2 hK49 hK50 hK149 hK160 hkl
 obtain ⟨s3, hs3⟩ : ∃ s3, s3 = s1 := ⟨_, rfl⟩
 rw [← hs3] at *
 have hX3 := HX2.out
 have hV3 := HV2.out
 have hq3 := HQ2.out
 have hG3 := HG2.out
 clear hs3 v0 fv
 generalize W2 = W3 at *
 have v0 := hV3.c0
 have v1 := hV3.c1
 have v2 := hV3.c2
 have v3 := hV3.c3
 have v4 := hV3.c4
 have y1 := hq3.c1
 have fz := hX3.fr
 have u0 : W3.drew.cell? ⟨B, 0, none⟩ = _ := v0
 have u1 : W3.drew.cell? ⟨B, 1, none⟩ = _ := v1
 have u2 : W3.drew.cell? ⟨B, 2, none⟩ = _ := v2
 have u3 : W3.drew.cell? ⟨B, 3, none⟩ = _ := v3
 have u4 : W3.drew.cell? ⟨B, 4, none⟩ = _ := v4
 have z1 : W3.drew.cell? ⟨g, 1, none⟩ = _ := y1
 have fd : ∀ i, W3.drew.frozen? ⟨w.heap.size, i, none⟩ = false := fz
 have t0 : W3.drew.cell? ⟨w.heap.size, 0, none⟩ = _ := hX3.c0
 have t1 : W3.drew.cell? ⟨w.heap.size, 1, none⟩ = _ := hX3.c1
 have t2 : W3.drew.cell? ⟨w.heap.size, 2, none⟩ = _ := hX3.c2
 have t3 : W3.drew.cell? ⟨w.heap.size, 3, none⟩ = _ := hX3.c3
 have t4 : W3.drew.cell? ⟨w.heap.size, 4, none⟩ = _ := hX3.c4
 have s0 := hX3.c0
 have s1' := hX3.c1
 have s2' := hX3.c2
 have s3' := hX3.c3
 have s4 := hX3.c4
 have hX3d : BoxV W3.drew w.heap.size (.int .u8 0) (.int .u64 0) (.string ⟨#[]⟩) (.slice none 0 0) (.slice none 0 0) := hX3
 have R5 := Lib.hid (BoxV.drw (BoxV.put5 hX3 (.int .u8 k) (.int .u64 (0 : Nat)) (.string ⟨#[]⟩) (.slice none 0 0) (.slice none 0 0)))
 have HQ5 := Lib.hid (QS.drw (QS.keep (w' := (((((W3.setCell ⟨w.heap.size, 0, none⟩ (.int .u8 k)).setCell ⟨w.heap.size, 1, none⟩ (.int .u64 (0 : Nat))).setCell ⟨w.heap.size, 2, none⟩ (.string ⟨#[]⟩)).setCell ⟨w.heap.size, 3, none⟩ (.slice none 0 0)).setCell ⟨w.heap.size, 4, none⟩ (.slice none 0 0))) hq3 (by simp) ((Below.heap_setCell _ _ _ _ (by show g ≠ w.heap.size; omega)).trans ((Below.heap_setCell _ _ _ _ (by show g ≠ w.heap.size; omega)).trans ((Below.heap_setCell _ _ _ _ (by show g ≠ w.heap.size; omega)).trans ((Below.heap_setCell _ _ _ _ (by show g ≠ w.heap.size; omega)).trans (Below.heap_setCell _ _ _ _ (by show g ≠ w.heap.size; omega)))))) (fun _ => (Below.heap_setCell _ _ _ _ (by show d ≠ w.heap.size; omega)).trans ((Below.heap_setCell _ _ _ _ (by show d ≠ w.heap.size; omega)).trans ((Below.heap_setCell _ _ _ _ (by show d ≠ w.heap.size; omega)).trans ((Below.heap_setCell _ _ _ _ (by show d ≠ w.heap.size; omega)).trans (Below.heap_setCell _ _ _ _ (by show d ≠ w.heap.size; omega))))))))
 have HG5 := Lib.hid (grown_drew (grown_set5 hG3 (Nat.le_refl w.heap.size) (.int .u8 k) (.int .u64 (0 : Nat)) (.string ⟨#[]⟩) (.slice none 0 0) (.slice none 0 0)))
 clear hV3 hq3 hX3 hG3 hX3d
 go_upto_region 31 with fail
 go_region
 go_wp2_with fail
 refine bodyPost_ret (results_v3 rfl _ _ w.heap.size 63 _ (0, 0) _ rfl R5.out Tryz.underlying63 rfl (by kernel_rfl)) rfl ?_
 rw [HRK.out]
 exact read_end (k := k) (nn := 0) (st := ⟨#[]⟩) (n := n) rfl rfl HG5.out HQ5.out (fun _ => leaf_shows hk (by decide) (by decide))
end Go.Proofs.YtdklhcmoilcpgaaGreat
