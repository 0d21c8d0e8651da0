/-
  Texts, together: VgC, VgCb, VgD.
  Conditions: none but sizes.
-/
import Derived.Test.YtdklhcmoilcpgaaGreatVgAZ
import Derived.Lib.ConvBytes
import Derived.Test.YtdklhcmoilcpgaaGreatVl0Z
import Derived.Test.YtdklhcmoilcpgaaGreatVl8Z
import Derived.Test.YtdklhcmoilcpgaaGreatValTZ
import Derived.Test.YtdklhcmoilcpgaaGreatValPZ
set_option linter.unusedVariables false
set_option linter.unusedSimpArgs false
namespace Go.Proofs.YtdklhcmoilcpgaaGreat
open Go.RowKit
theorem itemsP_none {v : Nat → St → Option (Tree × Nat × St)} (hv : ∀ m, v m none = none) (keys : Bool) : ∀ (c m : Nat), itemsP v keys c m none = none ∨ itemsP v keys c m none = some ([], [], m, none)
 | 0, m => .inr rfl
 | c + 1, m => .inl (by
  have h : (if keys = true then (textS 1 255 (none : St)).2 else none) = none := by cases keys <;> rfl
  rw [itemsP, h, hv])
theorem finP_none (t : Tree) (m : Nat) : finP t m none = none := rfl
theorem low_out_drew (B : Nat) (w : World) : Sub (lowm B w) (lowm B w.drew) := low_sub (Nat.le_refl _) fun _ _ _ => rfl
set_option maxRecDepth 100000 in
set_option maxHeartbeats 16000000 in
theorem read_map (v : Nat → St → Option (Tree × Nat × St)) (hlv : LeavesV v) (hvn : ∀ m, v m none = none) (D n g d : Nat) (s : St) (w : World) (hQ : QS w g d s) (hdg : d ≤ g) (hs : lenS s ≤ 40000) (hD : D ≤ 6) (hn : n < 200) (hK : (numS 1 s).1 = 168)
    (hv : ∀ (m1 : Nat) (s1 : St) (w1 : World), m1 < 200 → lenS s1 ≤ 40000 → QS w1 g d s1 → Calls Tryz.prog 111 #[.pointer (some ⟨g, 0, none⟩), .int .i64 ((D : Int) + 1), .int .i64 (m1 : Int)] w1 (ReadSaid g d w1 (v m1 s1))) :
    Calls Tryz.prog 111 #[.pointer (some ⟨g, 0, none⟩), .int .i64 D, .int .i64 ((n + 1 : Nat) : Int)] w (ReadSaid g d w (match itemsP v true (min (numS 4 (numS 4 (numS 1 s).2).2).1 200) n (numS 4 (numS 4 (numS 1 s).2).2).2 with | none => none | some (ks, l, m', s') => finP (.node 168 0 ⟨#[]⟩ ks l) m' s')) := by
  obtain ⟨M, hM⟩ : ∃ M : Nat, M = n + 1 := ⟨_, rfl⟩
  rw [← hM]
  have hM1 : (M : Int) - 1 = (n : Int) := by omega
  have hM2 : (M : Int) ≤ 200 := by omega
  have hM3 : decide ((n : Int) < 0) = false := by simp
  have hD6 : ¬ (6 : Int) < (D : Int) := by omega
  have hs1l : lenS (numS 1 s).2 ≤ 40000 := Nat.le_trans (numS_lenS 1 s) hs
  have hs2l : lenS (numS 4 (numS 1 s).2).2 ≤ 40000 := Nat.le_trans (numS_lenS 4 _) hs1l
  have hs3l : lenS (numS 4 (numS 4 (numS 1 s).2).2).2 ≤ 40000 := Nat.le_trans (numS_lenS 4 _) hs2l
  have hXlt : (numS 4 (numS 4 (numS 1 s).2).2).1 < 18446744073709551616 := numS_lt 4 _
  obtain ⟨r, hr⟩ : ∃ r, r = (match itemsP v true (min (numS 4 (numS 4 (numS 1 s).2).2).1 200) n (numS 4 (numS 4 (numS 1 s).2).2).2 with | none => none | some (ks, l, m', s') => finP (.node 168 0 ⟨#[]⟩ ks l) m' s') := ⟨_, rfl⟩
  rw [← hr]
  have HV := Lib.hid hv
  have HLV := Lib.hid hlv
  have HVN := Lib.hid (fun c m => itemsP_none hvn true c m)
  have HST := Lib.hid (fun c m s ks0 l0 t m' s' h => itemsP_step v true c m s ks0 l0 t m' s' h)
  have HSP := Lib.hid (fun c m s ks0 l0 h => itemsP_stop v true c m s ks0 l0 h)
  clear hv hlv hvn
  have hglt := hQ.lt
  obtain ⟨W0, hW0⟩ : ∃ W0, W0 = w.alloc (Obj.cells #[.int .u8 0, .int .u64 0, .string ⟨#[]⟩, .slice none 0 0, .slice none 0 0] 63) := ⟨_, rfl⟩
  have hb0 : Below w.heap.size w W0 := by rw [hW0]; exact below_boxV _ _
  have hs0 : W0.heap.size = w.heap.size + 1 := by rw [hW0]; simp
  have hQ0 := hQ.keep hb0.size (hb0.block g hglt) (fun hd => hb0.block d hd)
  have hX0 : BoxV W0 w.heap.size (.int .u8 0) (.int .u64 0) (.string ⟨#[]⟩) (.slice none 0 0) (.slice none 0 0) := by rw [hW0]; exact BoxV.new w
  have hg0 : w.grownBy W0 (some g) := rd_grown (grown_refl w _) hb0
  have HNU := Lib.hid (qnum_any g d s 1 W0 hQ0 (by omega))
  have hk := numS1_lt s
  generalize (numS 1 s).2 = s1 at *
  generalize (numS 1 s).1 = k at *
  have hk8 : IntKind.u8.wrap (k : Int) = (k : Int) := by rw [IntKind.wrap_u8]; omega
  have HX0 := Lib.hid hX0
  have HG0 := Lib.hid hg0
  have HS0 := Lib.hid hs0
  clear hQ hb0 hs0 hQ0 hX0 hg0
  have HR := Lib.hid hr
  have HKK := Lib.hid hK
  clear hr hM hK
  go_enter Tryz.func111, Tryz.ntmps111
  go_wp2_with fail
  rw [← hW0]
  have HW0 := Lib.hid hW0
  clear hW0
  refine HNU.out.mono ?_
  rintro e w1 ⟨rfl, hq1, hg1⟩
  have hX1 : BoxV w1 w.heap.size (.int .u8 0) (.int .u64 0) (.string ⟨#[]⟩) (.slice none 0 0) (.slice none 0 0) := (hg1.block _ (by rw [HS0.out]; omega) (fun e => by have := Option.some.inj e; omega)).trans HX0.out
  have hG1 := grown_trans' HG0.out hg1
  have hs1 := hX1.lt
  go_upto_region 3 with fail
  obtain ⟨W2, hW2⟩ : ∃ W2, W2 = w1.alloc (Obj.cells #[.int .u8 k, .int .u64 0, .string ⟨#[]⟩, .slice none 0 0, .slice none 0 0] 63) := ⟨_, rfl⟩
  have hb2 : Below w1.heap.size w1 W2 := by rw [hW2]; exact below_boxV _ _
  have hs2 : W2.heap.size = w1.heap.size + 1 := by rw [hW2]; simp
  have hV2 : BoxV W2 w1.heap.size (.int .u8 k) (.int .u64 0) (.string ⟨#[]⟩) (.slice none 0 0) (.slice none 0 0) := by rw [hW2]; exact BoxV.new w1
  have hX2 := hX1.kept hb2 (Nat.le_refl _)
  have hq2 := hq1.keep hb2.size (hb2.block g hq1.lt) (fun hd => hb2.block d hd)
  have hG2 := rd_grown hG1 hb2
  rw [← hW2]
  clear hW2 hb2 hX1 hq1 hG1 hg1
  have hK := HKK.out
  subst hK
  clear hk8 hk
  generalize hB : w1.heap.size = B at *
  have hBw : w.heap.size < B := by omega
  have hG0 : RdR w g d w.heap.size B 168 (.slice none 0 0) (.slice none 0 0) [] [] [] s1 W2 := ⟨hglt, hdg, Nat.le_refl _, hBw, hX2, hV2, OwnG.nil_ _ _ _ _, OwnG.nil_ _ _ _ _, rfl, fun q h => absurd h (by simp), fun k h => by simp [Value.ownBlock] at h, hq2, hG2⟩
  have v0 := hV2.c0
  have HN4 := Lib.hid (qnum_any g d s1 4 W2 hq2 (by omega))
  clear hX2 hV2 hq2 hG2 hs1 hs2 hB
  have hs2l' := hs2l
  have hs3l' := hs3l
  go_wp2_with fail
  refine HN4.out.mono ?_
  rintro e w3 ⟨rfl, hq3, hg3⟩
  have hG3 := hG0.read hq3 hg3
  have HN5 := Lib.hid (qnum_any g d (numS 4 s1).2 4 w3 hq3 (by omega))
  clear hq3 hg3 v0
  go_wp2_with fail
  refine HN5.out.mono ?_
  rintro e w4 ⟨rfl, hq4, hg4⟩
  have hG4 := hG3.read hq4 hg4
  clear hq4 hg4 hG3 hG0 HN4 HN5 hs2l'
  generalize (numS 4 (numS 4 s1).2).2 = s2 at *
  generalize (numS 4 (numS 4 s1).2).1 = X at *
  generalize hC : min X 200 = C at *
  have HC := Lib.hid hC
  have hC200 : C ≤ 200 := by omega
  clear hC
  go_wp2_with fail
  go_loopw [2, 11] (fun nv iv wr => ∃ (j mj : Nat) (kv lv : Value) (ks : List ByteArray) (xs : List Cell5) (lT : List Tree) (sj : St), j ≤ C ∧ nv = .int .i64 mj ∧ iv = .int .u64 j ∧ RdR w g d w.heap.size B 168 kv lv ks xs lT sj wr ∧ lT.length = j ∧ ks.length ≤ j ∧ (∀ x ∈ ks, x.size ≤ 40000) ∧ mj ≤ n ∧ lenS sj ≤ 40000 ∧
      Hid (itemsP v true C n s2 = pre3 ks lT (itemsP v true (C - j) mj sj))) (fun _ iv _ => C - (intOf iv).toNat)
  case atStart => exact ⟨0, n, _, _, [], [], [], s2, by omega, rfl, rfl, hG4, rfl, by simp, by simp, Nat.le_refl _, by omega, Lib.hid (by rw [Nat.sub_zero, pre3_nil])⟩
  case round =>
    clear hG4
    obtain ⟨j, mj, kv, lv, ks, xs, lT, sj, hj, rfl, rfl, hR, hlT, hkl, hkz, hmj, hsj, HIT⟩ := hrel
    rename World => wj
    have y1 := hR.rd.c1
    have v0 := hR.v.c0
    obtain ⟨A3, c3, ek, _⟩ := hR.kso.form
    obtain ⟨A4, c4, el, _⟩ := hR.lo.form
    generalize hkn : ks.length = kn at ek
    generalize hxn : xs.length = xn at el
    subst ek
    subst el
    by_cases hgo : j < C ∧ sj ≠ none
    · obtain ⟨hlt, hsn⟩ := hgo
      have hj1 : (j : Int) < (X : Int) := by have := HC.out; omega
      have hj2 : (j : Int) < 200 := by omega
      have hjw : IntKind.u64.wrap ((j : Int) + 1) = ((j + 1 : Nat) : Int) := by rw [IntKind.wrap_u64]; omega
      have y1' : wj.cell? ⟨g, 1, none⟩ = some (.bool false) := by
        rw [y1]
        cases sj with
        | none => exact absurd rfl hsn
        | some l => rfl
      have hCj : C - j = C - (j + 1) + 1 := by omega
      have HIT2 : Hid (itemsP v true C n s2 = pre3 ks lT (itemsP v true (C - (j + 1) + 1) mj sj)) := by rw [← hCj]; exact HIT
      have hkn' := hkn
      have hxn' := hxn
      have hxle : xn ≤ 200 := by have := hR.len; omega
      have hkB := Lib.hid hR.kso.block
      have hlB := Lib.hid hR.lo.block
      have hRlt := hR.lt
      clear y1 HIT hCj hsn
      have HTX := Lib.hid (qtext_any g d sj 1 255 wj hR.rd (by omega) (by omega) (by omega))
      have htl := textS_lenS 1 255 sj
      have htf := textS_fst_le 1 255 sj
      obtain ⟨sk, hsk⟩ : ∃ sk, sk = (textS 1 255 sj).2 := ⟨_, rfl⟩
      obtain ⟨tx, htx⟩ : ∃ tx, tx = (textS 1 255 sj).1 := ⟨_, rfl⟩
      rw [← hsk] at htl HTX
      rw [← htx] at htf HTX
      have HSK := Lib.hid (And.intro hsk htx)
      clear hsk htx hkn hxn
      go_wp2_with fail
      refine HTX.out.mono ?_
      rintro e w5 ⟨rfl, hq5, hg5⟩
      have hR5 := hR.read hq5 hg5
      have x3 := hR5.v.c3
      have f3 := hR5.v.fr 3
      have hlt5 := hR5.lt
      have hkn5 := hkn'
      clear hq5 hg5 v0 y1'
      go_wp2_with (at_builtin
                   refine wpList_appendW strC _ rfl (.tmp 83) (.tmp 85) 60 rfl (B + 1) 9 (.string ⟨#[]⟩) 16 Tryz.underlying60 infoStr rfl (.slice A3 kn c3) ks rfl (hR5.kso.alloc_ _) w5.heap.size (.slice (some ⟨w5.heap.size, 0, none⟩) 1 1) [str8 tx] rfl (ShowsG.lit (C := strC) [str8 tx] (by simp [Code.all, strC]) (by simp [maxLen])) (by simp) (by simp; omega) (by simp; omega) (by simp; omega) ?_
                   intro v6 w6 ho6 hg6 hwh6
                   obtain ⟨A6, c6, e6, _⟩ := ho6.form
                   generalize hkn6 : (ks ++ [str8 tx]).length = kn6 at e6
                   subst e6
                   have hP6 := hR5.key (x := str8 tx) ho6 hg6 hwh6
                   have hV6 : BoxV w6 B (.int .u8 168) (.int .u64 0) (.string ⟨#[]⟩) (.slice A3 kn c3) (.slice A4 xn c4) := (hg6.block B (by simp; omega) (fun e => by have := (hkB.out B e.symm).1; omega)).trans (hR5.v.kept ((Below.refl _ _).alloc (Nat.le_refl _) _) (Nat.le_refl _))
                   have f6 := hV6.fr 3
                   have u3 := hV6.c3
                   clear x3 f3)
      generalize w6.setCell ⟨B, 3, none⟩ (.slice A6 kn6 c6) = wc at *
      have hRc := hP6
      have hsk : lenS sk ≤ 40000 := by omega
      have HEQ : Hid (∀ (h : v mj sk = none), v mj (textS 1 255 sj).2 = none) := Lib.hid (fun h => by rw [← HSK.out.1]; exact h)
      have HITN : Hid (∀ (h : v mj sk = none), itemsP v true C n s2 = none) := Lib.hid (fun h => by rw [HIT2.out, HSP.out _ _ _ _ _ (show v mj (textS 1 255 sj).2 = none from by rw [← HSK.out.1]; exact h)])
      have HITS : Hid (∀ t m2 s5, v mj sk = some (t, m2, s5) → itemsP v true C n s2 = pre3 (ks ++ [str8 tx]) (lT ++ [t]) (itemsP v true (C - (j + 1)) m2 s5)) := Lib.hid (fun t m2 s5 h => by
        have h2 := HST.out (C - (j + 1)) mj sj ks lT t m2 s5 (show v mj (textS 1 255 sj).2 = some (t, m2, s5) from by rw [← HSK.out.1]; exact h)
        rw [HIT2.out, h2, HSK.out.2]
        rfl)
      have hksl : (ks ++ [str8 tx]).length ≤ j + 1 := by simp; omega
      have hksz : ∀ x ∈ ks ++ [str8 tx], x.size ≤ 40000 := by
        intro x hx
        rcases List.mem_append.1 hx with hx | hx
        · exact hkz x hx
        · simp at hx
          subst hx
          rw [str8_size]
          omega
      clear hP6 ho6 hg6 hwh6 f6 u3 hV6 hR5 hR HIT2 HSK HST HSP HTX hkn' htl htf HEQ
      have hkBc := Lib.hid hRc.kso.block
      have hlBc := Lib.hid hRc.lo.block
      have hRclt := hRc.lt
      have HCA := Lib.hid (HV.out mj sk wc (by omega) (by omega) hRc.rd)
      clear hkB hlB
      cases hval : v mj sk with
      | none =>
        obtain rfl : r = none := by rw [HR.out, HITN.out hval]
        rw [hval] at HCA
        unfold ReadSaid at HCA
        refine HCA.out.mono ?_
        rintro e w7 ⟨hg7, k7, n7, s7, a7, b7, c7, d7, e7, f7, m7, rfl⟩
        have hX7 := (hg7.block _ hRc.r.lt (fun e => by have := Option.some.inj e; omega)).trans hRc.r
        have hV7 := (hg7.block B hRc.v.lt (fun e => by have := Option.some.inj e; omega)).trans hRc.v
        have hG7 := grown_trans' hRc.frm hg7
        clear hRc hg7 hval HCA
        go_upto_region 27 with fail
        obtain ⟨W8, hW8⟩ : ∃ W8, W8 = w7.alloc (Obj.cells #[.int .u8 k7, .int .u64 n7, .string s7, .slice a7 b7 c7, .slice d7 e7 f7] 63) := ⟨_, rfl⟩
        have hb8 : Below w7.heap.size w7 W8 := by rw [hW8]; exact below_boxV _ _
        have hX8 := BoxV.kept hX7 hb8 (Nat.le_refl _)
        have hV8 := BoxV.kept hV7 hb8 (Nat.le_refl _)
        have HG8 := Lib.hid (rd_grown hG7 hb8)
        rw [← hW8]
        clear hW8 hb8 hX7 hV7 hG7
        have v0 := hV8.c0
        have v1 := hV8.c1
        have v2 := hV8.c2
        have v3 := hV8.c3
        have v4 := hV8.c4
        have x0 := hX8.c0
        have x1 := hX8.c1
        have x2 := hX8.c2
        have x3 := hX8.c3
        have x4 := hX8.c4
        have fz := hX8.fr
        have R5 := Lib.hid (hX8.put5 (.int .u8 168) (.int .u64 0) (.string ⟨#[]⟩) (.slice A6 kn6 c6) (.slice A4 xn c4))
        clear hX8 hV8
        go_wp2_with fail
        refine bodyPost_ret (results_v3 rfl _ _ w.heap.size 63 _ (0, 0) _ rfl R5.out Tryz.underlying63 rfl (by kernel_rfl)) rfl ?_
        exact read_none (k := 168) (nn := 0) (m := m7) rfl rfl (grown_set5 HG8.out (Nat.le_refl _) _ _ _ _ _)
      | some p =>
        obtain ⟨t, m2, s5⟩ := p
        rw [hval] at HCA
        obtain ⟨hlv1, hlv2, hlv3⟩ := HLV.out _ _ _ _ _ hval
        have HIT3 := Lib.hid (HITS.out _ _ _ hval)
        unfold ReadSaid at HCA
        refine HCA.out.mono ?_
        rintro e w7 ⟨hg7, vs, rfl, hsh7, hq7⟩
        obtain ⟨x5k, x5n, x5s, x5a, x5b, x5c, x5d, x5e, x5f, rfl⟩ := hsh7.cells5
        have hR7 := hRc.read hq7 hg7
        have hs7 := hg7.size
        clear hRc hg7 hval HCA hq7
        go_upto_region 27 with fail
        obtain ⟨W8, hW8⟩ : ∃ W8, W8 = w7.alloc (Obj.cells #[.int .u8 x5k, .int .u64 x5n, .string x5s, .slice x5a x5b x5c, .slice x5d x5e x5f] 63) := ⟨_, rfl⟩
        have hb8 : Below w7.heap.size w7 W8 := by rw [hW8]; exact below_boxV _ _
        have hs8 := hb8.size
        have hX8 : BoxV W8 w7.heap.size (.int .u8 x5k) (.int .u64 x5n) (.string x5s) (.slice x5a x5b x5c) (.slice x5d x5e x5f) := by rw [hW8]; exact BoxV.new w7
        have hR8 := hR7.step hb8
        have hsh8 : ShowsT (lowm wc.heap.size W8) t _ := hsh7.sub (low_sub hb8.size fun k _ hk => hb8.block k hk)
        rw [← hW8]
        clear hW8 hb8 hR7 hsh7
        have x0 := hX8.c0
        have x1 := hX8.c1
        have x2 := hX8.c2
        have x3 := hX8.c3
        have x4 := hX8.c4
        have v4 := hR8.v.c4
        have f4 := hR8.v.fr 4
        have hR8lt := hR8.lt
        have HB8 := Lib.hid hR8.lo.block
        have HSH8 := Lib.hid hsh8
        clear hX8 hsh8
        go_wp2_with (at_builtin
                     refine wpList_appendW valC _ rfl (.tmp 103) (.tmp 105) 61 rfl (B + 1) 63 (.agg #[.int .u8 0, .int .u64 0, .string ⟨#[]⟩, .slice none 0 0, .slice none 0 0]) 80 Tryz.underlying61 infoVal rfl (.slice A4 xn c4) xs rfl (hR8.lo.alloc_ _) W8.heap.size (.slice (some ⟨W8.heap.size, 0, none⟩) 1 1) [⟨x5k, x5n, x5s, x5a, x5b, x5c, x5d, x5e, x5f⟩] rfl (ShowsG.lit (C := valC) [⟨x5k, x5n, x5s, x5a, x5b, x5c, x5d, x5e, x5f⟩] (by simp [Code.all, valC, Cell5.vs]) (by simp [maxLen])) (by simp) (by simp; omega) (by simp; omega) (by simp; omega) ?_
                     intro v9 w9 ho9 hg9 hwh9
                     obtain ⟨A9, c9, e9, _⟩ := ho9.form
                     generalize hxn9 : (xs ++ [(⟨x5k, x5n, x5s, x5a, x5b, x5c, x5d, x5e, x5f⟩ : Cell5)]).length = xn9 at e9
                     subst e9
                     have hP9 := hR8.val (B := wc.heap.size) (by omega) (by omega) (fun k hk => (hkBc.out k hk).2) (fun k hk => (hlBc.out k hk).2) (t := t) (x := ⟨x5k, x5n, x5s, x5a, x5b, x5c, x5d, x5e, x5f⟩) HSH8.out ho9 hg9 hwh9
                     have hV9 : BoxV w9 B (.int .u8 168) (.int .u64 0) (.string ⟨#[]⟩) (.slice A6 kn6 c6) (.slice A4 xn c4) := (hg9.block B (by simp; omega) (fun e => by have := (HB8.out B e.symm).1; omega)).trans (hR8.v.kept ((Below.refl _ _).alloc (Nat.le_refl _) _) (Nat.le_refl _))
                     have f9 := hV9.fr 4
                     have u4 := hV9.c4
                     clear x0 x1 x2 x3 x4 v4 f4)
        go_roundw
        case rel => exact ⟨j + 1, m2, _, _, (ks ++ [str8 tx]), xs ++ [⟨x5k, x5n, x5s, x5a, x5b, x5c, x5d, x5e, x5f⟩], lT ++ [t], s5, by omega, rfl, by go_num, hP9, by simp [hlT], hksl, hksz, by omega, by omega, HIT3⟩
        case measure => simp [intOf]; omega
    · have hrf : r = finP (.node 168 0 ⟨#[]⟩ ks lT) mj sj := by
        rw [HR.out]
        by_cases hjC : j < C
        · have hsn : sj = none := Classical.byContradiction fun h => hgo ⟨hjC, h⟩
          subst hsn
          rw [HIT.out, finP_none]
          rcases HVN.out (C - j) mj with h | h <;> rw [h] <;> rfl
        · rw [HIT.out, show C - j = 0 by omega]
          simp [itemsP, pre3]
      have HRF := Lib.hid hrf
      obtain ⟨a3, n3, cc3, a4, n4, cc4, e1, e2, hSH⟩ := hR.shows (by decide) (by omega) (fun x hx => by have := hkz x hx; omega) (by omega)
      injection e1 with g1 g2 g3
      injection e2 with g4 g5 g6
      subst g1 g2 g3 g4 g5 g6
      have HSH := Lib.hid hSH
      have hX3 := hR.r
      have hV3 := hR.v
      have hq3 := hR.rd
      have hG3 := hR.frm
      have hgoH := Lib.hid hgo
      clear hrf hSH HIT HST HSP HV HLV HVN hR hgo v0
      have v0 := hV3.c0
      have v1 := hV3.c1
      have v2 := hV3.c2
      have v3 := hV3.c3
      have v4 := hV3.c4
      have fz := hX3.fr
      have u0 : wj.drew.cell? ⟨B, 0, none⟩ = _ := v0
      have u1 : wj.drew.cell? ⟨B, 1, none⟩ = _ := v1
      have u2 : wj.drew.cell? ⟨B, 2, none⟩ = _ := v2
      have u3 : wj.drew.cell? ⟨B, 3, none⟩ = _ := v3
      have u4 : wj.drew.cell? ⟨B, 4, none⟩ = _ := v4
      have z1 : wj.drew.cell? ⟨g, 1, none⟩ = _ := y1
      have fd : ∀ i, wj.drew.frozen? ⟨w.heap.size, i, none⟩ = false := fz
      have t0 : wj.drew.cell? ⟨w.heap.size, 0, none⟩ = _ := hX3.c0
      have t1 : wj.drew.cell? ⟨w.heap.size, 1, none⟩ = _ := hX3.c1
      have t2 : wj.drew.cell? ⟨w.heap.size, 2, none⟩ = _ := hX3.c2
      have t3 : wj.drew.cell? ⟨w.heap.size, 3, none⟩ = _ := hX3.c3
      have t4 : wj.drew.cell? ⟨w.heap.size, 4, none⟩ = _ := hX3.c4
      have s0 := hX3.c0
      have s1' := hX3.c1
      have s2' := hX3.c2
      have s3' := hX3.c3
      have s4 := hX3.c4
      have hX3d : BoxV wj.drew w.heap.size (.int .u8 0) (.int .u64 0) (.string ⟨#[]⟩) (.slice none 0 0) (.slice none 0 0) := hX3
      have R5 := Lib.hid (BoxV.drw (BoxV.put5 hX3 (.int .u8 168) (.int .u64 0) (.string ⟨#[]⟩) (.slice A3 kn c3) (.slice A4 xn c4)))
      have HQ5 := Lib.hid (QS.drw (QS.keep (w' := (((((wj.setCell ⟨w.heap.size, 0, none⟩ (.int .u8 168)).setCell ⟨w.heap.size, 1, none⟩ (.int .u64 0)).setCell ⟨w.heap.size, 2, none⟩ (.string ⟨#[]⟩)).setCell ⟨w.heap.size, 3, none⟩ (.slice A3 kn c3)).setCell ⟨w.heap.size, 4, none⟩ (.slice A4 xn c4))) hq3 (by simp) ((Below.heap_setCell _ _ _ _ (by show g ≠ w.heap.size; omega)).trans ((Below.heap_setCell _ _ _ _ (by show g ≠ w.heap.size; omega)).trans ((Below.heap_setCell _ _ _ _ (by show g ≠ w.heap.size; omega)).trans ((Below.heap_setCell _ _ _ _ (by show g ≠ w.heap.size; omega)).trans (Below.heap_setCell _ _ _ _ (by show g ≠ w.heap.size; omega)))))) (fun _ => (Below.heap_setCell _ _ _ _ (by show d ≠ w.heap.size; omega)).trans ((Below.heap_setCell _ _ _ _ (by show d ≠ w.heap.size; omega)).trans ((Below.heap_setCell _ _ _ _ (by show d ≠ w.heap.size; omega)).trans ((Below.heap_setCell _ _ _ _ (by show d ≠ w.heap.size; omega)).trans (Below.heap_setCell _ _ _ _ (by show d ≠ w.heap.size; omega))))))))
      have HG5 := Lib.hid (grown_drew (grown_set5 hG3 (Nat.le_refl w.heap.size) (.int .u8 168) (.int .u64 0) (.string ⟨#[]⟩) (.slice A3 kn c3) (.slice A4 xn c4)))
      have HSH5 := Lib.hid (((((((HSH.out.sub (low_set (B := B + 1) (p := w.heap.size) (by omega) 0 (.int .u8 168))).sub (low_set (B := B + 1) (p := w.heap.size) (by omega) 1 (.int .u64 0))).sub (low_set (B := B + 1) (p := w.heap.size) (by omega) 2 (.string ⟨#[]⟩))).sub (low_set (B := B + 1) (p := w.heap.size) (by omega) 3 (.slice A3 kn c3))).sub (low_set (B := B + 1) (p := w.heap.size) (by omega) 4 (.slice A4 xn c4))).sub (low_out_drew (B + 1) _)).sub (low_anti (B := w.heap.size) (B' := B + 1) (by omega)))
      clear hV3 hq3 hX3 hG3 hX3d
      by_cases hj1 : (j : Int) < (X : Int)
      case neg =>
        go_upto_region 31 with fail
        go_region
        go_wp2_with fail
        refine bodyPost_ret (results_v3 rfl _ _ w.heap.size 63 _ (0, 0) _ rfl R5.out Tryz.underlying63 rfl (by kernel_rfl)) rfl ?_
        rw [HRF.out]
        exact read_end (k := 168) (nn := 0) (st := ⟨#[]⟩) (n := mj) rfl rfl HG5.out HQ5.out (fun _ => HSH5.out)
      by_cases hj2 : (j : Int) < 200
      case neg =>
        go_upto_region 31 with fail
        go_region
        go_wp2_with fail
        refine bodyPost_ret (results_v3 rfl _ _ w.heap.size 63 _ (0, 0) _ rfl R5.out Tryz.underlying63 rfl (by kernel_rfl)) rfl ?_
        rw [HRF.out]
        exact read_end (k := 168) (nn := 0) (st := ⟨#[]⟩) (n := mj) rfl rfl HG5.out HQ5.out (fun _ => HSH5.out)
      obtain rfl : sj = none := Classical.byContradiction fun h => hgoH.out ⟨by have := HC.out; omega, h⟩
      go_upto_region 31 with fail
      go_region
      go_wp2_with fail
      refine bodyPost_ret (results_v3 rfl _ _ w.heap.size 63 _ (0, 0) _ rfl R5.out Tryz.underlying63 rfl (by kernel_rfl)) rfl ?_
      rw [HRF.out]
      exact read_end (k := 168) (nn := 0) (st := ⟨#[]⟩) (n := mj) rfl rfl HG5.out HQ5.out (fun _ => HSH5.out)
end Go.Proofs.YtdklhcmoilcpgaaGreat
namespace Go.Proofs.YtdklhcmoilcpgaaGreat
open Go.RowKit
set_option maxRecDepth 100000 in
set_option maxHeartbeats 16000000 in
theorem read_seq (v : Nat → St → Option (Tree × Nat × St)) (hlv : LeavesV v) (hvn : ∀ m, v m none = none) (D n g d : Nat) (s : St) (w : World) (hQ : QS w g d s) (hdg : d ≤ g) (hs : lenS s ≤ 40000) (hD : D ≤ 6) (hn : n < 200) (hK : (numS 1 s).1 = 169)
    (hv : ∀ (m1 : Nat) (s1 : St) (w1 : World), m1 < 200 → lenS s1 ≤ 40000 → QS w1 g d s1 → Calls Tryz.prog 111 #[.pointer (some ⟨g, 0, none⟩), .int .i64 ((D : Int) + 1), .int .i64 (m1 : Int)] w1 (ReadSaid g d w1 (v m1 s1))) :
    Calls Tryz.prog 111 #[.pointer (some ⟨g, 0, none⟩), .int .i64 D, .int .i64 ((n + 1 : Nat) : Int)] w (ReadSaid g d w (match itemsP v false (min (numS 4 (numS 4 (numS 1 s).2).2).1 200) n (numS 4 (numS 4 (numS 1 s).2).2).2 with | none => none | some (ks, l, m', s') => finP (.node 169 0 ⟨#[]⟩ ks l) m' s')) := by
  obtain ⟨M, hM⟩ : ∃ M : Nat, M = n + 1 := ⟨_, rfl⟩
  rw [← hM]
  have hM1 : (M : Int) - 1 = (n : Int) := by omega
  have hM2 : (M : Int) ≤ 200 := by omega
  have hM3 : decide ((n : Int) < 0) = false := by simp
  have hD6 : ¬ (6 : Int) < (D : Int) := by omega
  have hs1l : lenS (numS 1 s).2 ≤ 40000 := Nat.le_trans (numS_lenS 1 s) hs
  have hs2l : lenS (numS 4 (numS 1 s).2).2 ≤ 40000 := Nat.le_trans (numS_lenS 4 _) hs1l
  have hs3l : lenS (numS 4 (numS 4 (numS 1 s).2).2).2 ≤ 40000 := Nat.le_trans (numS_lenS 4 _) hs2l
  have hXlt : (numS 4 (numS 4 (numS 1 s).2).2).1 < 18446744073709551616 := numS_lt 4 _
  obtain ⟨r, hr⟩ : ∃ r, r = (match itemsP v false (min (numS 4 (numS 4 (numS 1 s).2).2).1 200) n (numS 4 (numS 4 (numS 1 s).2).2).2 with | none => none | some (ks, l, m', s') => finP (.node 169 0 ⟨#[]⟩ ks l) m' s') := ⟨_, rfl⟩
  rw [← hr]
  have HV := Lib.hid hv
  have HLV := Lib.hid hlv
  have HVN := Lib.hid (fun c m => itemsP_none hvn false c m)
  have HST := Lib.hid (fun c m s ks0 l0 t m' s' h => itemsP_step v false c m s ks0 l0 t m' s' h)
  have HSP := Lib.hid (fun c m s ks0 l0 h => itemsP_stop v false c m s ks0 l0 h)
  clear hv hlv hvn
  have hglt := hQ.lt
  obtain ⟨W0, hW0⟩ : ∃ W0, W0 = w.alloc (Obj.cells #[.int .u8 0, .int .u64 0, .string ⟨#[]⟩, .slice none 0 0, .slice none 0 0] 63) := ⟨_, rfl⟩
  have hb0 : Below w.heap.size w W0 := by rw [hW0]; exact below_boxV _ _
  have hs0 : W0.heap.size = w.heap.size + 1 := by rw [hW0]; simp
  have hQ0 := hQ.keep hb0.size (hb0.block g hglt) (fun hd => hb0.block d hd)
  have hX0 : BoxV W0 w.heap.size (.int .u8 0) (.int .u64 0) (.string ⟨#[]⟩) (.slice none 0 0) (.slice none 0 0) := by rw [hW0]; exact BoxV.new w
  have hg0 : w.grownBy W0 (some g) := rd_grown (grown_refl w _) hb0
  have HNU := Lib.hid (qnum_any g d s 1 W0 hQ0 (by omega))
  have hk := numS1_lt s
  generalize (numS 1 s).2 = s1 at *
  generalize (numS 1 s).1 = k at *
  have hk8 : IntKind.u8.wrap (k : Int) = (k : Int) := by rw [IntKind.wrap_u8]; omega
  have HX0 := Lib.hid hX0
  have HG0 := Lib.hid hg0
  have HS0 := Lib.hid hs0
  clear hQ hb0 hs0 hQ0 hX0 hg0
  have HR := Lib.hid hr
  have HKK := Lib.hid hK
  clear hr hM hK
  go_enter Tryz.func111, Tryz.ntmps111
  go_wp2_with fail
  rw [← hW0]
  have HW0 := Lib.hid hW0
  clear hW0
  refine HNU.out.mono ?_
  rintro e w1 ⟨rfl, hq1, hg1⟩
  have hX1 : BoxV w1 w.heap.size (.int .u8 0) (.int .u64 0) (.string ⟨#[]⟩) (.slice none 0 0) (.slice none 0 0) := (hg1.block _ (by rw [HS0.out]; omega) (fun e => by have := Option.some.inj e; omega)).trans HX0.out
  have hG1 := grown_trans' HG0.out hg1
  have hs1 := hX1.lt
  go_upto_region 3 with fail
  obtain ⟨W2, hW2⟩ : ∃ W2, W2 = w1.alloc (Obj.cells #[.int .u8 k, .int .u64 0, .string ⟨#[]⟩, .slice none 0 0, .slice none 0 0] 63) := ⟨_, rfl⟩
  have hb2 : Below w1.heap.size w1 W2 := by rw [hW2]; exact below_boxV _ _
  have hs2 : W2.heap.size = w1.heap.size + 1 := by rw [hW2]; simp
  have hV2 : BoxV W2 w1.heap.size (.int .u8 k) (.int .u64 0) (.string ⟨#[]⟩) (.slice none 0 0) (.slice none 0 0) := by rw [hW2]; exact BoxV.new w1
  have hX2 := hX1.kept hb2 (Nat.le_refl _)
  have hq2 := hq1.keep hb2.size (hb2.block g hq1.lt) (fun hd => hb2.block d hd)
  have hG2 := rd_grown hG1 hb2
  rw [← hW2]
  clear hW2 hb2 hX1 hq1 hG1 hg1
  have hK := HKK.out
  subst hK
  clear hk8 hk
  generalize hB : w1.heap.size = B at *
  have hBw : w.heap.size < B := by omega
  have hG0 : RdR w g d w.heap.size B 169 (.slice none 0 0) (.slice none 0 0) [] [] [] s1 W2 := ⟨hglt, hdg, Nat.le_refl _, hBw, hX2, hV2, OwnG.nil_ _ _ _ _, OwnG.nil_ _ _ _ _, rfl, fun q h => absurd h (by simp), fun k h => by simp [Value.ownBlock] at h, hq2, hG2⟩
  have v0 := hV2.c0
  have HN4 := Lib.hid (qnum_any g d s1 4 W2 hq2 (by omega))
  clear hX2 hV2 hq2 hG2 hs1 hs2 hB
  have hs2l' := hs2l
  have hs3l' := hs3l
  go_wp2_with fail
  refine HN4.out.mono ?_
  rintro e w3 ⟨rfl, hq3, hg3⟩
  have hG3 := hG0.read hq3 hg3
  have HN5 := Lib.hid (qnum_any g d (numS 4 s1).2 4 w3 hq3 (by omega))
  clear hq3 hg3 v0
  go_wp2_with fail
  refine HN5.out.mono ?_
  rintro e w4 ⟨rfl, hq4, hg4⟩
  have hG4 := hG3.read hq4 hg4
  clear hq4 hg4 hG3 hG0 HN4 HN5 hs2l'
  generalize (numS 4 (numS 4 s1).2).2 = s2 at *
  generalize (numS 4 (numS 4 s1).2).1 = X at *
  generalize hC : min X 200 = C at *
  have HC := Lib.hid hC
  have hC200 : C ≤ 200 := by omega
  clear hC
  go_wp2_with fail
  go_loopw [2, 11] (fun nv iv wr => ∃ (j mj : Nat) (kv lv : Value) (ks : List ByteArray) (xs : List Cell5) (lT : List Tree) (sj : St), j ≤ C ∧ nv = .int .i64 mj ∧ iv = .int .u64 j ∧ RdR w g d w.heap.size B 169 kv lv ks xs lT sj wr ∧ lT.length = j ∧ ks.length ≤ j ∧ (∀ x ∈ ks, x.size ≤ 40000) ∧ mj ≤ n ∧ lenS sj ≤ 40000 ∧
      Hid (itemsP v false C n s2 = pre3 ks lT (itemsP v false (C - j) mj sj))) (fun _ iv _ => C - (intOf iv).toNat)
  case atStart => exact ⟨0, n, _, _, [], [], [], s2, by omega, rfl, rfl, hG4, rfl, by simp, by simp, Nat.le_refl _, by omega, Lib.hid (by rw [Nat.sub_zero, pre3_nil])⟩
  case round =>
    clear hG4
    obtain ⟨j, mj, kv, lv, ks, xs, lT, sj, hj, rfl, rfl, hR, hlT, hkl, hkz, hmj, hsj, HIT⟩ := hrel
    rename World => wj
    have y1 := hR.rd.c1
    have v0 := hR.v.c0
    obtain ⟨A3, c3, ek, _⟩ := hR.kso.form
    obtain ⟨A4, c4, el, _⟩ := hR.lo.form
    generalize hkn : ks.length = kn at ek
    generalize hxn : xs.length = xn at el
    subst ek
    subst el
    by_cases hgo : j < C ∧ sj ≠ none
    · obtain ⟨hlt, hsn⟩ := hgo
      have hj1 : (j : Int) < (X : Int) := by have := HC.out; omega
      have hj2 : (j : Int) < 200 := by omega
      have hjw : IntKind.u64.wrap ((j : Int) + 1) = ((j + 1 : Nat) : Int) := by rw [IntKind.wrap_u64]; omega
      have y1' : wj.cell? ⟨g, 1, none⟩ = some (.bool false) := by
        rw [y1]
        cases sj with
        | none => exact absurd rfl hsn
        | some l => rfl
      have hCj : C - j = C - (j + 1) + 1 := by omega
      have HIT2 : Hid (itemsP v false C n s2 = pre3 ks lT (itemsP v false (C - (j + 1) + 1) mj sj)) := by rw [← hCj]; exact HIT
      have hkn' := hkn
      have hxn' := hxn
      have hxle : xn ≤ 200 := by have := hR.len; omega
      have hkB := Lib.hid hR.kso.block
      have hlB := Lib.hid hR.lo.block
      have hRlt := hR.lt
      clear y1 HIT hCj hsn
      clear hkn hxn
      have HITN : Hid (∀ (h : v mj sj = none), itemsP v false C n s2 = none) := Lib.hid (fun h => by rw [HIT2.out, HSP.out _ _ _ _ _ (show v mj sj = none from h)])
      have HITS : Hid (∀ t m2 s5, v mj sj = some (t, m2, s5) → itemsP v false C n s2 = pre3 ks (lT ++ [t]) (itemsP v false (C - (j + 1)) m2 s5)) := Lib.hid (fun t m2 s5 h => by
        have h2 := HST.out (C - (j + 1)) mj sj ks lT t m2 s5 (show v mj sj = some (t, m2, s5) from h)
        rw [HIT2.out, h2]
        simp)
      have hksl : ks.length ≤ j + 1 := by omega
      have hksz := hkz
      have hRc := hR
      clear HIT2 HST HSP hkn' hR
      go_wp2_with fail
      clear v0 y1'
      have hkBc := Lib.hid hRc.kso.block
      have hlBc := Lib.hid hRc.lo.block
      have hRclt := hRc.lt
      have HCA := Lib.hid (HV.out mj sj wj (by omega) (by omega) hRc.rd)
      clear hkB hlB
      cases hval : v mj sj with
      | none =>
        obtain rfl : r = none := by rw [HR.out, HITN.out hval]
        rw [hval] at HCA
        unfold ReadSaid at HCA
        refine HCA.out.mono ?_
        rintro e w7 ⟨hg7, k7, n7, s7, a7, b7, c7, d7, e7, f7, m7, rfl⟩
        have hX7 := (hg7.block _ hRc.r.lt (fun e => by have := Option.some.inj e; omega)).trans hRc.r
        have hV7 := (hg7.block B hRc.v.lt (fun e => by have := Option.some.inj e; omega)).trans hRc.v
        have hG7 := grown_trans' hRc.frm hg7
        clear hRc hg7 hval HCA
        go_upto_region 27 with fail
        obtain ⟨W8, hW8⟩ : ∃ W8, W8 = w7.alloc (Obj.cells #[.int .u8 k7, .int .u64 n7, .string s7, .slice a7 b7 c7, .slice d7 e7 f7] 63) := ⟨_, rfl⟩
        have hb8 : Below w7.heap.size w7 W8 := by rw [hW8]; exact below_boxV _ _
        have hX8 := BoxV.kept hX7 hb8 (Nat.le_refl _)
        have hV8 := BoxV.kept hV7 hb8 (Nat.le_refl _)
        have HG8 := Lib.hid (rd_grown hG7 hb8)
        rw [← hW8]
        clear hW8 hb8 hX7 hV7 hG7
        have v0 := hV8.c0
        have v1 := hV8.c1
        have v2 := hV8.c2
        have v3 := hV8.c3
        have v4 := hV8.c4
        have x0 := hX8.c0
        have x1 := hX8.c1
        have x2 := hX8.c2
        have x3 := hX8.c3
        have x4 := hX8.c4
        have fz := hX8.fr
        have R5 := Lib.hid (hX8.put5 (.int .u8 169) (.int .u64 0) (.string ⟨#[]⟩) (.slice A3 kn c3) (.slice A4 xn c4))
        clear hX8 hV8
        go_wp2_with fail
        refine bodyPost_ret (results_v3 rfl _ _ w.heap.size 63 _ (0, 0) _ rfl R5.out Tryz.underlying63 rfl (by kernel_rfl)) rfl ?_
        exact read_none (k := 169) (nn := 0) (m := m7) rfl rfl (grown_set5 HG8.out (Nat.le_refl _) _ _ _ _ _)
      | some p =>
        obtain ⟨t, m2, s5⟩ := p
        rw [hval] at HCA
        obtain ⟨hlv1, hlv2, hlv3⟩ := HLV.out _ _ _ _ _ hval
        have HIT3 := Lib.hid (HITS.out _ _ _ hval)
        unfold ReadSaid at HCA
        refine HCA.out.mono ?_
        rintro e w7 ⟨hg7, vs, rfl, hsh7, hq7⟩
        obtain ⟨x5k, x5n, x5s, x5a, x5b, x5c, x5d, x5e, x5f, rfl⟩ := hsh7.cells5
        have hR7 := hRc.read hq7 hg7
        have hs7 := hg7.size
        clear hRc hg7 hval HCA hq7
        go_upto_region 27 with fail
        obtain ⟨W8, hW8⟩ : ∃ W8, W8 = w7.alloc (Obj.cells #[.int .u8 x5k, .int .u64 x5n, .string x5s, .slice x5a x5b x5c, .slice x5d x5e x5f] 63) := ⟨_, rfl⟩
        have hb8 : Below w7.heap.size w7 W8 := by rw [hW8]; exact below_boxV _ _
        have hs8 := hb8.size
        have hX8 : BoxV W8 w7.heap.size (.int .u8 x5k) (.int .u64 x5n) (.string x5s) (.slice x5a x5b x5c) (.slice x5d x5e x5f) := by rw [hW8]; exact BoxV.new w7
        have hR8 := hR7.step hb8
        have hsh8 : ShowsT (lowm wj.heap.size W8) t _ := hsh7.sub (low_sub hb8.size fun k _ hk => hb8.block k hk)
        rw [← hW8]
        clear hW8 hb8 hR7 hsh7
        have x0 := hX8.c0
        have x1 := hX8.c1
        have x2 := hX8.c2
        have x3 := hX8.c3
        have x4 := hX8.c4
        have v4 := hR8.v.c4
        have f4 := hR8.v.fr 4
        have hR8lt := hR8.lt
        have HB8 := Lib.hid hR8.lo.block
        have HSH8 := Lib.hid hsh8
        clear hX8 hsh8
        go_wp2_with (at_builtin
                     refine wpList_appendW valC _ rfl (.tmp 103) (.tmp 105) 61 rfl (B + 1) 63 (.agg #[.int .u8 0, .int .u64 0, .string ⟨#[]⟩, .slice none 0 0, .slice none 0 0]) 80 Tryz.underlying61 infoVal rfl (.slice A4 xn c4) xs rfl (hR8.lo.alloc_ _) W8.heap.size (.slice (some ⟨W8.heap.size, 0, none⟩) 1 1) [⟨x5k, x5n, x5s, x5a, x5b, x5c, x5d, x5e, x5f⟩] rfl (ShowsG.lit (C := valC) [⟨x5k, x5n, x5s, x5a, x5b, x5c, x5d, x5e, x5f⟩] (by simp [Code.all, valC, Cell5.vs]) (by simp [maxLen])) (by simp) (by simp; omega) (by simp; omega) (by simp; omega) ?_
                     intro v9 w9 ho9 hg9 hwh9
                     obtain ⟨A9, c9, e9, _⟩ := ho9.form
                     generalize hxn9 : (xs ++ [(⟨x5k, x5n, x5s, x5a, x5b, x5c, x5d, x5e, x5f⟩ : Cell5)]).length = xn9 at e9
                     subst e9
                     have hP9 := hR8.val (B := wj.heap.size) (by omega) (by omega) (fun k hk => (hkBc.out k hk).2) (fun k hk => (hlBc.out k hk).2) (t := t) (x := ⟨x5k, x5n, x5s, x5a, x5b, x5c, x5d, x5e, x5f⟩) HSH8.out ho9 hg9 hwh9
                     have hV9 : BoxV w9 B (.int .u8 169) (.int .u64 0) (.string ⟨#[]⟩) (.slice A3 kn c3) (.slice A4 xn c4) := (hg9.block B (by simp; omega) (fun e => by have := (HB8.out B e.symm).1; omega)).trans (hR8.v.kept ((Below.refl _ _).alloc (Nat.le_refl _) _) (Nat.le_refl _))
                     have f9 := hV9.fr 4
                     have u4 := hV9.c4
                     clear x0 x1 x2 x3 x4 v4 f4)
        go_roundw
        case rel => exact ⟨j + 1, m2, _, _, ks, xs ++ [⟨x5k, x5n, x5s, x5a, x5b, x5c, x5d, x5e, x5f⟩], lT ++ [t], s5, by omega, rfl, by go_num, hP9, by simp [hlT], hksl, hksz, by omega, by omega, HIT3⟩
        case measure => simp [intOf]; omega
    · have hrf : r = finP (.node 169 0 ⟨#[]⟩ ks lT) mj sj := by
        rw [HR.out]
        by_cases hjC : j < C
        · have hsn : sj = none := Classical.byContradiction fun h => hgo ⟨hjC, h⟩
          subst hsn
          rw [HIT.out, finP_none]
          rcases HVN.out (C - j) mj with h | h <;> rw [h] <;> rfl
        · rw [HIT.out, show C - j = 0 by omega]
          simp [itemsP, pre3]
      have HRF := Lib.hid hrf
      obtain ⟨a3, n3, cc3, a4, n4, cc4, e1, e2, hSH⟩ := hR.shows (by decide) (by omega) (fun x hx => by have := hkz x hx; omega) (by omega)
      injection e1 with g1 g2 g3
      injection e2 with g4 g5 g6
      subst g1 g2 g3 g4 g5 g6
      have HSH := Lib.hid hSH
      have hX3 := hR.r
      have hV3 := hR.v
      have hq3 := hR.rd
      have hG3 := hR.frm
      have hgoH := Lib.hid hgo
      clear hrf hSH HIT HST HSP HV HLV HVN hR hgo v0
      have v0 := hV3.c0
      have v1 := hV3.c1
      have v2 := hV3.c2
      have v3 := hV3.c3
      have v4 := hV3.c4
      have fz := hX3.fr
      have u0 : wj.drew.cell? ⟨B, 0, none⟩ = _ := v0
      have u1 : wj.drew.cell? ⟨B, 1, none⟩ = _ := v1
      have u2 : wj.drew.cell? ⟨B, 2, none⟩ = _ := v2
      have u3 : wj.drew.cell? ⟨B, 3, none⟩ = _ := v3
      have u4 : wj.drew.cell? ⟨B, 4, none⟩ = _ := v4
      have z1 : wj.drew.cell? ⟨g, 1, none⟩ = _ := y1
      have fd : ∀ i, wj.drew.frozen? ⟨w.heap.size, i, none⟩ = false := fz
      have t0 : wj.drew.cell? ⟨w.heap.size, 0, none⟩ = _ := hX3.c0
      have t1 : wj.drew.cell? ⟨w.heap.size, 1, none⟩ = _ := hX3.c1
      have t2 : wj.drew.cell? ⟨w.heap.size, 2, none⟩ = _ := hX3.c2
      have t3 : wj.drew.cell? ⟨w.heap.size, 3, none⟩ = _ := hX3.c3
      have t4 : wj.drew.cell? ⟨w.heap.size, 4, none⟩ = _ := hX3.c4
      have s0 := hX3.c0
      have s1' := hX3.c1
      have s2' := hX3.c2
      have s3' := hX3.c3
      have s4 := hX3.c4
      have hX3d : BoxV wj.drew w.heap.size (.int .u8 0) (.int .u64 0) (.string ⟨#[]⟩) (.slice none 0 0) (.slice none 0 0) := hX3
      have R5 := Lib.hid (BoxV.drw (BoxV.put5 hX3 (.int .u8 169) (.int .u64 0) (.string ⟨#[]⟩) (.slice A3 kn c3) (.slice A4 xn c4)))
      have HQ5 := Lib.hid (QS.drw (QS.keep (w' := (((((wj.setCell ⟨w.heap.size, 0, none⟩ (.int .u8 169)).setCell ⟨w.heap.size, 1, none⟩ (.int .u64 0)).setCell ⟨w.heap.size, 2, none⟩ (.string ⟨#[]⟩)).setCell ⟨w.heap.size, 3, none⟩ (.slice A3 kn c3)).setCell ⟨w.heap.size, 4, none⟩ (.slice A4 xn c4))) hq3 (by simp) ((Below.heap_setCell _ _ _ _ (by show g ≠ w.heap.size; omega)).trans ((Below.heap_setCell _ _ _ _ (by show g ≠ w.heap.size; omega)).trans ((Below.heap_setCell _ _ _ _ (by show g ≠ w.heap.size; omega)).trans ((Below.heap_setCell _ _ _ _ (by show g ≠ w.heap.size; omega)).trans (Below.heap_setCell _ _ _ _ (by show g ≠ w.heap.size; omega)))))) (fun _ => (Below.heap_setCell _ _ _ _ (by show d ≠ w.heap.size; omega)).trans ((Below.heap_setCell _ _ _ _ (by show d ≠ w.heap.size; omega)).trans ((Below.heap_setCell _ _ _ _ (by show d ≠ w.heap.size; omega)).trans ((Below.heap_setCell _ _ _ _ (by show d ≠ w.heap.size; omega)).trans (Below.heap_setCell _ _ _ _ (by show d ≠ w.heap.size; omega))))))))
      have HG5 := Lib.hid (grown_drew (grown_set5 hG3 (Nat.le_refl w.heap.size) (.int .u8 169) (.int .u64 0) (.string ⟨#[]⟩) (.slice A3 kn c3) (.slice A4 xn c4)))
      have HSH5 := Lib.hid (((((((HSH.out.sub (low_set (B := B + 1) (p := w.heap.size) (by omega) 0 (.int .u8 169))).sub (low_set (B := B + 1) (p := w.heap.size) (by omega) 1 (.int .u64 0))).sub (low_set (B := B + 1) (p := w.heap.size) (by omega) 2 (.string ⟨#[]⟩))).sub (low_set (B := B + 1) (p := w.heap.size) (by omega) 3 (.slice A3 kn c3))).sub (low_set (B := B + 1) (p := w.heap.size) (by omega) 4 (.slice A4 xn c4))).sub (low_out_drew (B + 1) _)).sub (low_anti (B := w.heap.size) (B' := B + 1) (by omega)))
      clear hV3 hq3 hX3 hG3 hX3d
      by_cases hj1 : (j : Int) < (X : Int)
      case neg =>
        go_upto_region 31 with fail
        go_region
        go_wp2_with fail
        refine bodyPost_ret (results_v3 rfl _ _ w.heap.size 63 _ (0, 0) _ rfl R5.out Tryz.underlying63 rfl (by kernel_rfl)) rfl ?_
        rw [HRF.out]
        exact read_end (k := 169) (nn := 0) (st := ⟨#[]⟩) (n := mj) rfl rfl HG5.out HQ5.out (fun _ => HSH5.out)
      by_cases hj2 : (j : Int) < 200
      case neg =>
        go_upto_region 31 with fail
        go_region
        go_wp2_with fail
        refine bodyPost_ret (results_v3 rfl _ _ w.heap.size 63 _ (0, 0) _ rfl R5.out Tryz.underlying63 rfl (by kernel_rfl)) rfl ?_
        rw [HRF.out]
        exact read_end (k := 169) (nn := 0) (st := ⟨#[]⟩) (n := mj) rfl rfl HG5.out HQ5.out (fun _ => HSH5.out)
      obtain rfl : sj = none := Classical.byContradiction fun h => hgoH.out ⟨by have := HC.out; omega, h⟩
      go_upto_region 31 with fail
      go_region
      go_wp2_with fail
      refine bodyPost_ret (results_v3 rfl _ _ w.heap.size 63 _ (0, 0) _ rfl R5.out Tryz.underlying63 rfl (by kernel_rfl)) rfl ?_
      rw [HRF.out]
      exact read_end (k := 169) (nn := 0) (st := ⟨#[]⟩) (n := mj) rfl rfl HG5.out HQ5.out (fun _ => HSH5.out)
end Go.Proofs.YtdklhcmoilcpgaaGreat
namespace Go.Proofs.YtdklhcmoilcpgaaGreat
open Go.RowKit
theorem readQ_none : ∀ (dl m : Nat), readQ dl m none = none
 | 0, _ => rfl
 | _ + 1, 0 => rfl
 | _ + 1, _ + 1 => rfl
theorem readQ_leaf (dl n : Nat) (s : St) (h : (numS 1 s).1 ≠ 168 ∧ (numS 1 s).1 ≠ 169) : readQ (dl + 1) (n + 1) s = (if (numS 1 s).1 = 8 ∨ (numS 1 s).1 = 2 then finP (.node (numS 1 s).1 (numS 1 (numS 1 s).2).1 ⟨#[]⟩ [] []) n (numS 1 (numS 1 s).2).2 else if (numS 1 s).1 = 49 ∨ (numS 1 s).1 = 50 then finP (.node (numS 1 s).1 (numS 8 (numS 1 s).2).1 ⟨#[]⟩ [] []) n (numS 8 (numS 1 s).2).2 else if (numS 1 s).1 = 149 then finP (.node (numS 1 s).1 0 (str8 (textS 2 4096 (numS 1 s).2).1) [] []) n (textS 2 4096 (numS 1 s).2).2 else if (numS 1 s).1 = 160 then finP (.node (numS 1 s).1 0 (str8 (textS 4 4096 (numS 1 s).2).1) [] []) n (textS 4 4096 (numS 1 s).2).2 else finP (.node (numS 1 s).1 0 ⟨#[]⟩ [] []) n (numS 1 s).2) := by
 have h' : ¬ ((numS 1 s).1 = 168 ∨ (numS 1 s).1 = 169) := fun e => e.elim h.1 h.2
 rw [readQ, if_neg h']
theorem readQ_list (dl n k : Nat) (yk : Bool) (s : St) (h : (numS 1 s).1 = k) (hk : k = 168 ∨ k = 169) (hy : decide (k = 168) = yk) :
  readQ (dl + 1) (n + 1) s = (match itemsP (readQ dl) yk (min (numS 4 (numS 4 (numS 1 s).2).2).1 200) n (numS 4 (numS 4 (numS 1 s).2).2).2 with | none => none | some (ks, l, m', s') => finP (.node k 0 ⟨#[]⟩ ks l) m' s') := by
 rw [readQ, h, if_neg (by omega), if_neg (by omega), if_neg (by omega), if_neg (by omega), if_pos hk, hy]
 cases itemsP (readQ dl) yk (min (numS 4 (numS 4 (numS 1 s).2).2).1 200) n (numS 4 (numS 4 (numS 1 s).2).2).2 with
 | none => rfl
 | some p => rfl
theorem read_any : ∀ (dl m g d : Nat) (s : St) (w : World), dl ≤ 6 → m ≤ 200 → lenS s ≤ 40000 → QS w g d s → d ≤ g →
  Calls Tryz.prog 111 #[.pointer (some ⟨g, 0, none⟩), .int .i64 ((7 - dl : Nat) : Int), .int .i64 (m : Int)] w (ReadSaid g d w (readQ dl m s))
 | 0, m, g, d, s, w, hdl, hm, hs, hQ, hdg => read_stop 7 m g d s w hQ hs (by omega) (by omega) (.inr (by omega))
 | dl + 1, 0, g, d, s, w, hdl, hm, hs, hQ, hdg => by
  have h := read_stop (7 - (dl + 1)) 0 g d s w hQ hs (by omega) (by omega) (.inl (by omega))
  exact h
 | dl + 1, n + 1, g, d, s, w, hdl, hm, hs, hQ, hdg => by
  have hD : 7 - (dl + 1) ≤ 6 := by omega
  have IH : ∀ (m1 : Nat) (s1 : St) (w1 : World), m1 < 200 → lenS s1 ≤ 40000 → QS w1 g d s1 → Calls Tryz.prog 111 #[.pointer (some ⟨g, 0, none⟩), .int .i64 (((7 - (dl + 1) : Nat) : Int) + 1), .int .i64 (m1 : Int)] w1 (ReadSaid g d w1 (readQ dl m1 s1)) := fun m1 s1 w1 h1 h2 h3 => by
   have h := read_any dl m1 g d s1 w1 (by omega) (by omega) h2 h3 hdg
   have e : ((7 - dl : Nat) : Int) = ((7 - (dl + 1) : Nat) : Int) + 1 := by omega
   rw [e] at h
   exact h
  by_cases h168 : (numS 1 s).1 = 168
  ·rw [readQ_list dl n 168 true s h168 (.inl rfl) rfl]
   exact read_map (readQ dl) (readQ_leaves dl) (readQ_none dl) _ n g d s w hQ hdg hs hD (by omega) h168 IH
  by_cases h169 : (numS 1 s).1 = 169
  ·rw [readQ_list dl n 169 false s h169 (.inr rfl) rfl]
   exact read_seq (readQ dl) (readQ_leaves dl) (readQ_none dl) _ n g d s w hQ hdg hs hD (by omega) h169 IH
  rw [readQ_leaf dl n s ⟨h168, h169⟩]
  by_cases h8 : (numS 1 s).1 = 8
  ·exact read_leaf8 _ n g d s w hQ hdg hs hD (by omega) h8
  by_cases h2 : (numS 1 s).1 = 2
  ·exact read_leaf2 _ n g d s w hQ hdg hs hD (by omega) h2
  by_cases h49 : (numS 1 s).1 = 49
  ·exact read_leaf49 _ n g d s w hQ hdg hs hD (by omega) h49
  by_cases h50 : (numS 1 s).1 = 50
  ·exact read_leaf50 _ n g d s w hQ hdg hs hD (by omega) h50
  by_cases h149 : (numS 1 s).1 = 149
  ·exact read_leaf149 _ n g d s w hQ hdg hs hD (by omega) h149
  by_cases h160 : (numS 1 s).1 = 160
  ·exact read_leaf160 _ n g d s w hQ hdg hs hD (by omega) h160
  exact read_leaf0 _ n g d s w hQ hdg hs hD (by omega) ⟨h168, h169⟩ h8 h2 h49 h50 h149 h160
theorem below_put5 {B b : Nat} {w0 w : World} (hb : Below B w0 w) (h : B ≤ b) (a0 a1 a2 a3 a4 : Value) :
  Below B w0 (((((w.setCell ⟨b, 0, none⟩ a0).setCell ⟨b, 1, none⟩ a1).setCell ⟨b, 2, none⟩ a2).setCell ⟨b, 3, none⟩ a3).setCell ⟨b, 4, none⟩ a4) :=
 below_set (below_set (below_set (below_set (below_set hb h _) h _) h _) h _) h _
theorem cmp_front {bt l : List UInt8} (h : bt.length ≤ l.length) : (∃ r, l = bt ++ r) ↔ bt = l.take bt.length :=
 ⟨fun ⟨r, hr⟩ => by rw [hr]; simp, fun h2 => ⟨l.drop bt.length, (List.take_append_drop bt.length l).symm.trans (by rw [← h2])⟩⟩
theorem low_put5 (w : World) (b : Nat) (a0 a1 a2 a3 a4 : Value) {B : Nat} (hB : b < B) :
  Sub (lowm B w) (lowm B (((((w.setCell ⟨b, 0, none⟩ a0).setCell ⟨b, 1, none⟩ a1).setCell ⟨b, 2, none⟩ a2).setCell ⟨b, 3, none⟩ a3).setCell ⟨b, 4, none⟩ a4)) :=
 ((((low_set hB 0 a0).trans (low_set hB 1 a1)).trans (low_set hB 2 a2)).trans (low_set hB 3 a3)).trans (low_set hB 4 a4)
theorem below_grown {w W w' : World} {g : Nat} (hb : Below w.heap.size w W) (hg : W.grownBy w' (some g)) (h : w.heap.size ≤ g) : Below w.heap.size w w' :=
 ⟨hg.os.trans hb.os, hg.tape.trans hb.tape, hg.output.trans hb.output, Nat.le_trans hb.size hg.size, fun k hk => (hg.block k (Nat.lt_of_lt_of_le hk hb.size) (fun e => by have := Option.some.inj e; omega)).trans (hb.block k hk)⟩
set_option maxRecDepth 100000 in
set_option maxHeartbeats 8000000 in
theorem rget_any (v : Value) (d0 : Nat) (l : List UInt8) (w : World) (hv : Shows w d0 v l) (hl : l.length ≤ 40000) :
  Calls Tryz.prog 86 #[v] w (GetSaid l w (getP l)) := by
 obtain ⟨A, c, rfl, hlc, hcm, _⟩ := id hv
 obtain ⟨R, hR⟩ : ∃ R, R = getP l := ⟨_, rfl⟩
 rw [← hR]
 have HR := Lib.hid hR
 have HG := Lib.hid (refGet l)
 obtain ⟨W0, hW0⟩ : ∃ W0, W0 = w.alloc (Obj.cells #[.int .u8 0, .int .u64 0, .string ⟨#[]⟩, .slice none 0 0, .slice none 0 0] 63) := ⟨_, rfl⟩
 have hb0 : Below w.heap.size w W0 := by rw [hW0]; exact below_boxV _ _
 have hX0 : BoxV W0 w.heap.size (.int .u8 0) (.int .u64 0) (.string ⟨#[]⟩) (.slice none 0 0) (.slice none 0 0) := by rw [hW0]; exact BoxV.new w
 have hs0 := hX0.lt
 have hv0 := hv.keep hb0.size (fun hp => hb0.block _ (hv.lt hp))
 have HO := Lib.hid (qopen_any _ l d0 W0 hv0 (by omega))
 have HVK := Lib.hid (fun w' (hb : Below w.heap.size w w') => hv.keep hb.size (fun hp => hb.block _ (hv.lt hp)))
 have HRD := Lib.hid (fun g d w1 (hQ : QS w1 g d (some l)) (hdg : d ≤ g) => read_any 6 200 g d (some l) w1 (by omega) (by omega) (by show l.length ≤ 40000; exact hl) hQ hdg)
 simp only [show ((7 - 6 : Nat) : Int) = 1 from rfl, show ((200 : Nat) : Int) = 200 from rfl] at HRD
 have HX0 := Lib.hid hX0
 have HB0 := Lib.hid hb0
 clear hR hX0 hb0 hv hv0
 generalize hq : readQ 6 200 (some l) = q at *
 have HQ := Lib.hid hq
 clear hq
 go_enter Tryz.func86, Tryz.ntmps86
 go_wp2_with fail
 rw [← hW0]
 have HW0 := Lib.hid hW0
 clear hW0
 refine HO.out.mono ?_
 rintro e w1 ⟨g, d, rfl, hq1, hg1, ⟨hd1, hd2⟩, hb1⟩
 have hB1 : Below w.heap.size w w1 := HB0.out.trans (hb1.mono HB0.out.size)
 have hX1 := HX0.out.kept hb1 (Nat.le_refl _)
 have HRD1 := Lib.hid (HRD.out g d w1 hq1 hd2)
 clear hq1 hb1
 go_wp2_with fail
 unfold ReadSaid at HRD1
 refine HRD1.out.mono ?_
 cases q with
 | none =>
  obtain rfl : R = none := by rw [HR.out]; exact (HG.out).2 (.inl rfl)
  rintro e w2 ⟨hg2, k7, n7, s7, a7, b7, c7, d7, e7, f7, m7, rfl⟩
  have hX2 := (hg2.block _ hX1.lt (fun e => by have := Option.some.inj e; omega)).trans hX1
  have hB2 := below_grown hB1 hg2 (by omega)
  go_upto_region 2 with fail
  obtain ⟨W3, hW3⟩ : ∃ W3, W3 = w2.alloc (Obj.cells #[.int .u8 k7, .int .u64 n7, .string s7, .slice a7 b7 c7, .slice d7 e7 f7] 63) := ⟨_, rfl⟩
  have hb3 : Below w2.heap.size w2 W3 := by rw [hW3]; exact below_boxV _ _
  have hX3 := BoxV.kept hX2 hb3 (Nat.le_refl _)
  have hB3 := hB2.trans (hb3.mono hB2.size)
  rw [← hW3]
  clear hW3 hb3 hX2 hB2 hX1 hB1 hg2
  have x0 := hX3.c0
  have x1 := hX3.c1
  have x2 := hX3.c2
  have x3 := hX3.c3
  have x4 := hX3.c4
  have fz := hX3.fr
  have R5 := Lib.hid (hX3.put5 (.int .u8 0) (.int .u64 0) (.string ⟨#[]⟩) (.slice none 0 0) (.slice none 0 0))
  have HE5 := Lib.hid (below_put5 hB3 (Nat.le_refl _) (.int .u8 0) (.int .u64 0) (.string ⟨#[]⟩) (.slice none 0 0) (.slice none 0 0))
  clear hX3 hB3
  go_wp2_with fail
  refine bodyPost_ret (results_v3 rfl _ _ w.heap.size 63 _ (0, 0) _ rfl R5.out Tryz.underlying63 rfl (by kernel_rfl)) rfl ?_
  exact ⟨HE5.out, rfl⟩
 | some p =>
  obtain ⟨t, m, s⟩ := p
  rintro e w2 ⟨hg2, vs, rfl, hsh2, hq2⟩
  obtain ⟨xk, xn, xs, xa, xb, xc, xd, xe, xf, rfl⟩ := hsh2.cells5
  have hX2 := (hg2.block _ hX1.lt (fun e => by have := Option.some.inj e; omega)).trans hX1
  have hB2 := below_grown hB1 hg2 (by omega)
  have hsz2 := hg2.size
  have hszb := hB1.size
  go_upto_region 2 with fail
  obtain ⟨W3, hW3⟩ : ∃ W3, W3 = w2.alloc (Obj.cells #[.int .u8 xk, .int .u64 xn, .string xs, .slice xa xb xc, .slice xd xe xf] 63) := ⟨_, rfl⟩
  have hb3 : Below w2.heap.size w2 W3 := by rw [hW3]; exact below_boxV _ _
  have hX3 := BoxV.kept hX2 hb3 (Nat.le_refl _)
  have hB3 := hB2.trans (hb3.mono hB2.size)
  have hV3 : BoxV W3 w2.heap.size (.int .u8 xk) (.int .u64 xn) (.string xs) (.slice xa xb xc) (.slice xd xe xf) := by rw [hW3]; exact BoxV.new w2
  have hsh3 : ShowsT (lowm (w.heap.size + 1) W3) t _ := (hsh2.sub (low_sub hb3.size fun k _ hk => hb3.block k hk)).sub (low_anti hX1.lt)
  rw [← hW3]
  clear hW3 hb3 hX2 hB2 hX1 hB1 hg2 hsh2 hq2
  have HCK := Lib.hid (qcheck_any t _ W3 (hsh3.sub (low_out _ _)))
  have HBY := Lib.hid (fun (hc : checkT t = 0) w' (hb : Below W3.heap.size W3 w') => (show Calls Tryz.prog 67 #[.agg #[.int .u8 xk, .int .u64 xn, .string xs, .slice xa xb xc, .slice xd xe xf]] w' (EncSaid t w') from qbytes_any _ t _ w' rfl ((hsh3.sub (low_out _ _)).kept hb (Nat.le_refl _)) (check_ok hc).2.2 (check_ok hc).2.1))
  have HSH3 := Lib.hid hsh3
  generalize w2.heap.size = P at *
  have y0 := hV3.c0
  have y1 := hV3.c1
  have y2 := hV3.c2
  have y3 := hV3.c3
  have y4 := hV3.c4
  clear hsh3
  obtain ⟨E, hE⟩ : ∃ E, E = checkT t := ⟨_, rfl⟩
  rw [← hE] at HCK
  go_wp2_with fail
  refine HCK.out.mono ?_
  rintro e w4 ⟨rfl, hb4⟩
  have hX4 := hX3.kept hb4 (Nat.le_refl _)
  have hV4 := hV3.kept hb4 (Nat.le_refl _)
  have hB4 := hB3.trans (hb4.mono hB3.size)
  clear y0 y1 y2 y3 y4
  by_cases hE0 : E = 0
  case neg =>
   obtain rfl : R = none := by rw [HR.out]; exact (HG.out).2 (.inr ⟨t, m, s, rfl, .inl (by rw [← hE]; exact hE0)⟩)
   have tE : ((E : Int) != 0) = true := by simp; omega
   have x0 := hX4.c0
   have x1 := hX4.c1
   have x2 := hX4.c2
   have x3 := hX4.c3
   have x4 := hX4.c4
   have fz := hX4.fr
   have R5 := Lib.hid (hX4.put5 (.int .u8 0) (.int .u64 0) (.string ⟨#[]⟩) (.slice none 0 0) (.slice none 0 0))
   have HE5 := Lib.hid (below_put5 hB4 (Nat.le_refl _) (.int .u8 0) (.int .u64 0) (.string ⟨#[]⟩) (.slice none 0 0) (.slice none 0 0))
   clear hX4 hB4 hV4 hX3 hV3 hB3 hb4 hE
   go_wp2_with fail
   refine bodyPost_ret (results_v3 rfl _ _ w.heap.size 63 _ (0, 0) _ rfl R5.out Tryz.underlying63 rfl (by kernel_rfl)) rfl ?_
   exact ⟨HE5.out, rfl⟩
  have tE : ((E : Int) != 0) = false := by simp; omega
  have hc0 : checkT t = 0 := by omega
  have HSH4 := Lib.hid (HSH3.out.sub (low_sub hb4.size fun k _ hk => hb4.block k hk))
  have HBY4 := Lib.hid (HBY.out hc0 w4 hb4)
  have y0 := hV4.c0
  have y1 := hV4.c1
  have y2 := hV4.c2
  have y3 := hV4.c3
  have y4 := hV4.c4
  have HBL := Lib.hid (bytes_le hc0)
  have HG1 := Lib.hid (fun hr => (HG.out).1 t m s rfl hc0 hr)
  have HG2 := Lib.hid (fun hr => (HG.out).2 (.inr ⟨t, m, s, rfl, .inr hr⟩))
  clear hb4 hE hE0 hc0 hX3 hV3 hB3
  go_wp2_with fail
  unfold EncSaid at HBY4
  refine HBY4.out.mono ?_
  rintro e w5 ⟨cv, rfl, hcv, hb5⟩
  have hX5 := hX4.kept hb5 (Nat.le_refl _)
  have hV5 := hV4.kept hb5 (Nat.le_refl _)
  have hB5 := hB4.trans (hb5.mono hB4.size)
  have HSH5 := Lib.hid (HSH4.out.sub (low_sub hb5.size fun k _ hk => hb5.block k hk))
  obtain ⟨g5, _, hs5⟩ := hcv.shows
  obtain ⟨A5, c5, rfl, _, _, _⟩ := id hs5
  have hvl := HVK.out w5 hB5
  have hbl := HBL.out
  clear y0 y1 y2 y3 y4 hX4 hV4 hB4 hb5 hcv
  generalize hBT : bytesT t = bt at *
  by_cases hlen : bt.length ≤ l.length
  case neg =>
   obtain rfl : R = none := by rw [HR.out]; exact HG2.out (fun ⟨r, hr⟩ => hlen (by rw [hr]; simp))
   have tL : ((l.length : Int) < (bt.length : Int)) := by omega
   have tl2 : decide (l.length < bt.length) = true := by simpa using hlen
   obtain ⟨W6, hW6⟩ : ∃ W6, W6 = w5.drew := ⟨_, rfl⟩
   have hX6 : BoxV W6 w.heap.size (.int .u8 0) (.int .u64 0) (.string ⟨#[]⟩) (.slice none 0 0) (.slice none 0 0) := by rw [hW6]; exact BoxV.drw hX5
   have hB6 : Below w.heap.size w W6 := by rw [hW6]; exact below_drew1 hB5
   clear hX5 hB5 hV5 hs5 hvl hlen
   go_upto_region 5 with fail
   go_region
   rw [← hW6]
   clear hW6 tL tl2
   have x0 := hX6.c0
   have x1 := hX6.c1
   have x2 := hX6.c2
   have x3 := hX6.c3
   have x4 := hX6.c4
   have fz := hX6.fr
   have R5 := Lib.hid (hX6.put5 (.int .u8 0) (.int .u64 0) (.string ⟨#[]⟩) (.slice none 0 0) (.slice none 0 0))
   have HE5 := Lib.hid (below_put5 hB6 (Nat.le_refl _) (.int .u8 0) (.int .u64 0) (.string ⟨#[]⟩) (.slice none 0 0) (.slice none 0 0))
   clear hX6 hB6
   go_wp2_with fail
   refine bodyPost_ret (results_v3 rfl _ _ w.heap.size 63 _ (0, 0) _ rfl R5.out Tryz.underlying63 rfl (by kernel_rfl)) rfl ?_
   exact ⟨HE5.out, rfl⟩
  have tl2 : decide (l.length < bt.length) = false := by simpa using hlen
  have tL : ¬ ((l.length : Int) < (bt.length : Int)) := by omega
  have tk0 : (0 : Int) ≤ (bt.length : Int) := by omega
  have tkc : (bt.length : Int) ≤ (c : Int) := by omega
  have hhd := hvl.head2 hlen
  have HCV := Lib.hid (fun w' (h1 : Shows w' g5 (.slice A5 bt.length c5) bt) (h2 : Shows w' d0 (.slice A bt.length c) (l.take bt.length)) => And.intro (run_conv8 (P := Tryz.prog) w' 50 5 9 Tryz.underlying50 Tryz.underlying5 Tryz.underlying9 g5 _ _ h1) (run_conv8 (P := Tryz.prog) w' 50 5 9 Tryz.underlying50 Tryz.underlying5 Tryz.underlying9 d0 _ _ h2))
  obtain ⟨W6, hW6⟩ : ∃ W6, W6 = w5.drew := ⟨_, rfl⟩
  have hX6 : BoxV W6 w.heap.size (.int .u8 0) (.int .u64 0) (.string ⟨#[]⟩) (.slice none 0 0) (.slice none 0 0) := by rw [hW6]; exact BoxV.drw hX5
  have hV6 : BoxV W6 P (.int .u8 xk) (.int .u64 xn) (.string xs) (.slice xa xb xc) (.slice xd xe xf) := by rw [hW6]; exact BoxV.drw hV5
  have hB6 : Below w.heap.size w W6 := by rw [hW6]; exact below_drew1 hB5
  have hS6 : ShowsT (lowm (w.heap.size + 1) W6) t [.int .u8 xk, .int .u64 xn, .string xs, .slice xa xb xc, .slice xd xe xf] := by rw [hW6]; exact HSH5.out.sub (low_sub (Nat.le_refl _) fun _ _ _ => rfl)
  have HCC := Lib.hid (HCV.out w5.drew (hs5.keep (Nat.le_refl _) (fun _ => rfl)) (hhd.keep (Nat.le_refl _) (fun _ => rfl)))
  have hEE : ((str8 bt).toList == (str8 (l.take bt.length)).toList) = (bt == l.take bt.length) := by rw [str8_toList, str8_toList]
  obtain ⟨eb, heb⟩ : ∃ eb, eb = (bt == l.take bt.length) := ⟨_, rfl⟩
  rw [← heb] at hEE
  have HEB := Lib.hid heb
  have HFR := Lib.hid (cmp_front hlen)
  clear hX5 hB5 hV5 hs5 hvl hhd heb HCV
  go_upto_region 5 with fail
  go_region_held3 (fun w' => (convert 50 9 (.slice A5 bt.length c5)).run Tryz.prog w' = .ok (.string (str8 bt)) w' ∧ (convert 50 9 (.slice A bt.length c)).run Tryz.prog w' = .ok (.string (str8 (l.take bt.length))) w') (exact HCC.out) (fail)
  rw [← hW6]
  clear hW6 tL tl2 tk0 tkc HCC
  cases eb with
  | false =>
   obtain rfl : R = none := by
    rw [HR.out]
    refine HG2.out (fun hr => ?_)
    have h3 := HFR.out.1 hr
    have h4 := HEB.out
    rw [← h3] at h4
    simp at h4
   have x0 := hX6.c0
   have x1 := hX6.c1
   have x2 := hX6.c2
   have x3 := hX6.c3
   have x4 := hX6.c4
   have fz := hX6.fr
   have R5 := Lib.hid (hX6.put5 (.int .u8 0) (.int .u64 0) (.string ⟨#[]⟩) (.slice none 0 0) (.slice none 0 0))
   have HE5 := Lib.hid (below_put5 hB6 (Nat.le_refl _) (.int .u8 0) (.int .u64 0) (.string ⟨#[]⟩) (.slice none 0 0) (.slice none 0 0))
   clear hX6 hB6
   go_wp2_with fail
   refine bodyPost_ret (results_v3 rfl _ _ w.heap.size 63 _ (0, 0) _ rfl R5.out Tryz.underlying63 rfl (by kernel_rfl)) rfl ?_
   exact ⟨HE5.out, rfl⟩
  | true =>
   have hRs : R = some (t, bt.length) := by
    rw [HR.out, HG1.out (HFR.out.2 (by have h4 := HEB.out; simpa using h4.symm))]
   have x0 := hX6.c0
   have x1 := hX6.c1
   have x2 := hX6.c2
   have x3 := hX6.c3
   have x4 := hX6.c4
   have y0 := hV6.c0
   have y1 := hV6.c1
   have y2 := hV6.c2
   have y3 := hV6.c3
   have y4 := hV6.c4
   have fz := hX6.fr
   have R5 := Lib.hid (hX6.put5 (.int .u8 xk) (.int .u64 xn) (.string xs) (.slice xa xb xc) (.slice xd xe xf))
   have HE5 := Lib.hid (below_put5 hB6 (Nat.le_refl _) (.int .u8 xk) (.int .u64 xn) (.string xs) (.slice xa xb xc) (.slice xd xe xf))
   have HS5 := Lib.hid ((hS6.sub (low_put5 W6 w.heap.size (.int .u8 xk) (.int .u64 xn) (.string xs) (.slice xa xb xc) (.slice xd xe xf) (by omega))).sub (low_anti (Nat.le_succ _)))
   have HRS := Lib.hid hRs
   clear hX6 hB6 hV6 hS6 hRs
   go_wp2_with fail
   refine bodyPost_ret (results_v3 rfl _ _ w.heap.size 63 _ (0, 0) _ rfl R5.out Tryz.underlying63 rfl (by kernel_rfl)) rfl ?_
   rw [HRS.out]
   exact ⟨HE5.out, _, rfl, HS5.out⟩
end Go.Proofs.YtdklhcmoilcpgaaGreat
