/-
  Texts, together: VgC, VgCb.
  Conditions: none but sizes.
-/
import Derived.Test.YtnafibnhmhbfiaaVgAZ
/-
  The document's own read of values: a list, or a map.
  Conditions: at most 20000 bytes are left, at most 200 values.
-/
namespace Go.Proofs.Ytnafibnhmhbfiaa
open Go.RowKit
set_option linter.unusedVariables false
set_option linter.unusedSimpArgs false

theorem itemsP_none {v : Nat → St → Option (Tree × Nat × St)} (hv : ∀ m, v m none = none) (keys : Bool) : ∀ (c m : Nat), itemsP v keys c m none = none ∨ itemsP v keys c m none = some ([], [], m, none)
  | 0, m => .inr rfl
  | c + 1, m => .inl (by
    have h : (if keys = true then (textS 1 255 (none : St)).2 else none) = none := by cases keys <;> rfl
    rw [itemsP, h, hv])
theorem finP_none (t : Tree) (m : Nat) : finP t m none = none := rfl

theorem low_out_drew (B : Nat) (w : World) : Sub (lowm B w) (lowm B w.drew) := low_sub (Nat.le_refl _) fun _ _ _ => rfl

set_option maxRecDepth 100000 in
set_option maxHeartbeats 16000000 in
theorem read_map (v : Nat → St → Option (Tree × Nat × St)) (hlv : LeavesV v) (hvn : ∀ m, v m none = none) (D n g d : Nat) (s : St) (w : World) (hQ : QS w g d s) (hdg : d ≤ g) (hs : lenS s ≤ 20000) (hD : D ≤ 6) (hn : n < 200) (hK : (numS 1 s).1 = 168)
    (hv : ∀ (m1 : Nat) (s1 : St) (w1 : World), m1 < 200 → lenS s1 ≤ 20000 → QS w1 g d s1 → Calls Try.prog 52 #[.pointer (some ⟨g, 0, none⟩), .int .i64 ((D : Int) + 1), .int .i64 (m1 : Int)] w1 (ReadSaid g d w1 (v m1 s1))) :
    Calls Try.prog 52 #[.pointer (some ⟨g, 0, none⟩), .int .i64 D, .int .i64 ((n + 1 : Nat) : Int)] w (ReadSaid g d w (match itemsP v true (min (numS 4 (numS 4 (numS 1 s).2).2).1 200) n (numS 4 (numS 4 (numS 1 s).2).2).2 with | none => none | some (ks, l, m', s') => finP (.node 168 0 ⟨#[]⟩ ks l) m' s')) := by
  obtain ⟨M, hM⟩ : ∃ M : Nat, M = n + 1 := ⟨_, rfl⟩
  rw [← hM]
  have hM1 : (M : Int) - 1 = (n : Int) := by omega
  have hM2 : (M : Int) ≤ 200 := by omega
  have hM3 : decide ((n : Int) < 0) = false := by simp
  have hD6 : ¬ (6 : Int) < (D : Int) := by omega
  have hs1l : lenS (numS 1 s).2 ≤ 20000 := Nat.le_trans (numS_lenS 1 s) hs
  have hs2l : lenS (numS 4 (numS 1 s).2).2 ≤ 20000 := Nat.le_trans (numS_lenS 4 _) hs1l
  have hs3l : lenS (numS 4 (numS 4 (numS 1 s).2).2).2 ≤ 20000 := Nat.le_trans (numS_lenS 4 _) hs2l
  have hXlt : (numS 4 (numS 4 (numS 1 s).2).2).1 < 18446744073709551616 := numS_lt 4 _
  obtain ⟨r, hr⟩ : ∃ r, r = (match itemsP v true (min (numS 4 (numS 4 (numS 1 s).2).2).1 200) n (numS 4 (numS 4 (numS 1 s).2).2).2 with | none => none | some (ks, l, m', s') => finP (.node 168 0 ⟨#[]⟩ ks l) m' s') := ⟨_, rfl⟩
  rw [← hr]
  have HV := Lib.hid hv
  have HLV := Lib.hid hlv
  have HVN := Lib.hid (fun c m => itemsP_none hvn true c m)
  have HST := Lib.hid (fun c m s ks0 l0 t m' s' h => itemsP_step v true c m s ks0 l0 t m' s' h)
  have HSP := Lib.hid (fun c m s ks0 l0 h => itemsP_stop v true c m s ks0 l0 h)
  clear hv hlv hvn
  have hglt := hQ.lt
  obtain ⟨W0, hW0⟩ : ∃ W0, W0 = w.alloc (Obj.cells #[.int .u8 0, .int .u64 0, .string ⟨#[]⟩, .slice none 0 0, .slice none 0 0] 27) := ⟨_, rfl⟩
  have hb0 : Below w.heap.size w W0 := by rw [hW0]; exact below_boxV _ _
  have hs0 : W0.heap.size = w.heap.size + 1 := by rw [hW0]; simp
  have hQ0 := hQ.keep hb0.size (hb0.block g hglt) (fun hd => hb0.block d hd)
  have hX0 : BoxV W0 w.heap.size (.int .u8 0) (.int .u64 0) (.string ⟨#[]⟩) (.slice none 0 0) (.slice none 0 0) := by rw [hW0]; exact BoxV.new w
  have hg0 : w.grownBy W0 (some g) := rd_grown (grown_refl w _) hb0
  have HNU := Lib.hid (qnum_any g d s 1 W0 hQ0 (by omega))
  have hk := numS1_lt s
  generalize (numS 1 s).2 = s1 at *
  generalize (numS 1 s).1 = k at *
  have hk8 : IntKind.u8.wrap (k : Int) = (k : Int) := by rw [IntKind.wrap_u8]; omega
  have HX0 := Lib.hid hX0
  have HG0 := Lib.hid hg0
  have HS0 := Lib.hid hs0
  clear hQ hb0 hs0 hQ0 hX0 hg0
  have HR := Lib.hid hr
  have HKK := Lib.hid hK
  clear hr hM hK
  go_enter Try.func52, Try.ntmps52
  go_wp2_with fail
  rw [← hW0]
  have HW0 := Lib.hid hW0
  clear hW0
  refine HNU.out.mono ?_
  rintro e w1 ⟨rfl, hq1, hg1⟩
  have hX1 : BoxV w1 w.heap.size (.int .u8 0) (.int .u64 0) (.string ⟨#[]⟩) (.slice none 0 0) (.slice none 0 0) := (hg1.block _ (by rw [HS0.out]; omega) (fun e => by have := Option.some.inj e; omega)).trans HX0.out
  have hG1 := grown_trans' HG0.out hg1
  have hs1 := hX1.lt
  go_upto_region 3 with fail
  obtain ⟨W2, hW2⟩ : ∃ W2, W2 = w1.alloc (Obj.cells #[.int .u8 k, .int .u64 0, .string ⟨#[]⟩, .slice none 0 0, .slice none 0 0] 27) := ⟨_, rfl⟩
  have hb2 : Below w1.heap.size w1 W2 := by rw [hW2]; exact below_boxV _ _
  have hs2 : W2.heap.size = w1.heap.size + 1 := by rw [hW2]; simp
  have hV2 : BoxV W2 w1.heap.size (.int .u8 k) (.int .u64 0) (.string ⟨#[]⟩) (.slice none 0 0) (.slice none 0 0) := by rw [hW2]; exact BoxV.new w1
  have hX2 := hX1.kept hb2 (Nat.le_refl _)
  have hq2 := hq1.keep hb2.size (hb2.block g hq1.lt) (fun hd => hb2.block d hd)
  have hG2 := rd_grown hG1 hb2
  rw [← hW2]
  clear hW2 hb2 hX1 hq1 hG1 hg1
  have hK := HKK.out
  subst hK
  clear hk8 hk
  generalize hB : w1.heap.size = B at *
  have hBw : w.heap.size < B := by omega
  have hG0 : RdR w g d w.heap.size B 168 (.slice none 0 0) (.slice none 0 0) [] [] [] s1 W2 := ⟨hglt, hdg, Nat.le_refl _, hBw, hX2, hV2, OwnG.nil_ _ _ _ _, OwnG.nil_ _ _ _ _, rfl, fun q h => absurd h (by simp), fun k h => by simp [Value.ownBlock] at h, hq2, hG2⟩
  have v0 := hV2.c0
  have HN4 := Lib.hid (qnum_any g d s1 4 W2 hq2 (by omega))
  clear hX2 hV2 hq2 hG2 hs1 hs2 hB
  have hs2l' := hs2l
  have hs3l' := hs3l
  go_wp2_with fail
  refine HN4.out.mono ?_
  rintro e w3 ⟨rfl, hq3, hg3⟩
  have hG3 := hG0.read hq3 hg3
  have HN5 := Lib.hid (qnum_any g d (numS 4 s1).2 4 w3 hq3 (by omega))
  clear hq3 hg3 v0
  go_wp2_with fail
  refine HN5.out.mono ?_
  rintro e w4 ⟨rfl, hq4, hg4⟩
  have hG4 := hG3.read hq4 hg4
  clear hq4 hg4 hG3 hG0 HN4 HN5 hs2l'
  generalize (numS 4 (numS 4 s1).2).2 = s2 at *
  generalize (numS 4 (numS 4 s1).2).1 = X at *
  generalize hC : min X 200 = C at *
  have HC := Lib.hid hC
  have hC200 : C ≤ 200 := by omega
  clear hC
  go_wp2_with fail
  go_loopw [2, 11] (fun nv iv wr => ∃ (j mj : Nat) (kv lv : Value) (ks : List ByteArray) (xs : List Cell5) (lT : List Tree) (sj : St), j ≤ C ∧ nv = .int .i64 mj ∧ iv = .int .u64 j ∧ RdR w g d w.heap.size B 168 kv lv ks xs lT sj wr ∧ lT.length = j ∧ ks.length ≤ j ∧ (∀ x ∈ ks, x.size ≤ 20000) ∧ mj ≤ n ∧ lenS sj ≤ 20000 ∧
      Hid (itemsP v true C n s2 = pre3 ks lT (itemsP v true (C - j) mj sj))) (fun _ iv _ => C - (intOf iv).toNat)
  case atStart => exact ⟨0, n, _, _, [], [], [], s2, by omega, rfl, rfl, hG4, rfl, by simp, by simp, Nat.le_refl _, by omega, Lib.hid (by rw [Nat.sub_zero, pre3_nil])⟩
  case round =>
    clear hG4
    obtain ⟨j, mj, kv, lv, ks, xs, lT, sj, hj, rfl, rfl, hR, hlT, hkl, hkz, hmj, hsj, HIT⟩ := hrel
    rename World => wj
    have y1 := hR.rd.c1
    have v0 := hR.v.c0
    obtain ⟨A3, c3, ek, _⟩ := hR.kso.form
    obtain ⟨A4, c4, el, _⟩ := hR.lo.form
    generalize hkn : ks.length = kn at ek
    generalize hxn : xs.length = xn at el
    subst ek
    subst el
    by_cases hgo : j < C ∧ sj ≠ none
    · obtain ⟨hlt, hsn⟩ := hgo
      have hj1 : (j : Int) < (X : Int) := by have := HC.out; omega
      have hj2 : (j : Int) < 200 := by omega
      have hjw : IntKind.u64.wrap ((j : Int) + 1) = ((j + 1 : Nat) : Int) := by rw [IntKind.wrap_u64]; omega
      have y1' : wj.cell? ⟨g, 1, none⟩ = some (.bool false) := by
        rw [y1]
        cases sj with
        | none => exact absurd rfl hsn
        | some l => rfl
      have hCj : C - j = C - (j + 1) + 1 := by omega
      have HIT2 : Hid (itemsP v true C n s2 = pre3 ks lT (itemsP v true (C - (j + 1) + 1) mj sj)) := by rw [← hCj]; exact HIT
      have hkn' := hkn
      have hxn' := hxn
      have hxle : xn ≤ 200 := by have := hR.len; omega
      have hkB := Lib.hid hR.kso.block
      have hlB := Lib.hid hR.lo.block
      have hRlt := hR.lt
      clear y1 HIT hCj hsn
      have HTX := Lib.hid (qtext_any g d sj 1 255 wj hR.rd (by omega) (by omega) (by omega))
      have htl := textS_lenS 1 255 sj
      have htf := textS_fst_le 1 255 sj
      obtain ⟨sk, hsk⟩ : ∃ sk, sk = (textS 1 255 sj).2 := ⟨_, rfl⟩
      obtain ⟨tx, htx⟩ : ∃ tx, tx = (textS 1 255 sj).1 := ⟨_, rfl⟩
      rw [← hsk] at htl HTX
      rw [← htx] at htf HTX
      have HSK := Lib.hid (And.intro hsk htx)
      clear hsk htx hkn hxn
      go_wp2_with fail
      refine HTX.out.mono ?_
      rintro e w5 ⟨rfl, hq5, hg5⟩
      have hR5 := hR.read hq5 hg5
      have x3 := hR5.v.c3
      have f3 := hR5.v.fr 3
      have hlt5 := hR5.lt
      have hkn5 := hkn'
      clear hq5 hg5 v0 y1'
      go_wp2_with (at_builtin
                   refine wpList_appendW strC _ rfl (.tmp 83) (.tmp 85) 24 rfl (B + 1) 9 (.string ⟨#[]⟩) 16 Try.underlying24 infoStr rfl (.slice A3 kn c3) ks rfl (hR5.kso.alloc_ _) w5.heap.size (.slice (some ⟨w5.heap.size, 0, none⟩) 1 1) [str8 tx] rfl (ShowsG.lit (C := strC) [str8 tx] (by simp [Code.all, strC]) (by simp [maxLen])) (by simp) (by simp; omega) (by simp; omega) (by simp; omega) ?_
                   intro v6 w6 ho6 hg6 hwh6
                   obtain ⟨A6, c6, e6, _⟩ := ho6.form
                   generalize hkn6 : (ks ++ [str8 tx]).length = kn6 at e6
                   subst e6
                   have hP6 := hR5.key (x := str8 tx) ho6 hg6 hwh6
                   have hV6 : BoxV w6 B (.int .u8 168) (.int .u64 0) (.string ⟨#[]⟩) (.slice A3 kn c3) (.slice A4 xn c4) := (hg6.block B (by simp; omega) (fun e => by have := (hkB.out B e.symm).1; omega)).trans (hR5.v.kept ((Below.refl _ _).alloc (Nat.le_refl _) _) (Nat.le_refl _))
                   have f6 := hV6.fr 3
                   have u3 := hV6.c3
                   clear x3 f3)
      generalize w6.setCell ⟨B, 3, none⟩ (.slice A6 kn6 c6) = wc at *
      have hRc := hP6
      have hsk : lenS sk ≤ 20000 := by omega
      have HEQ : Hid (∀ (h : v mj sk = none), v mj (textS 1 255 sj).2 = none) := Lib.hid (fun h => by rw [← HSK.out.1]; exact h)
      have HITN : Hid (∀ (h : v mj sk = none), itemsP v true C n s2 = none) := Lib.hid (fun h => by rw [HIT2.out, HSP.out _ _ _ _ _ (show v mj (textS 1 255 sj).2 = none from by rw [← HSK.out.1]; exact h)])
      have HITS : Hid (∀ t m2 s5, v mj sk = some (t, m2, s5) → itemsP v true C n s2 = pre3 (ks ++ [str8 tx]) (lT ++ [t]) (itemsP v true (C - (j + 1)) m2 s5)) := Lib.hid (fun t m2 s5 h => by
        have h2 := HST.out (C - (j + 1)) mj sj ks lT t m2 s5 (show v mj (textS 1 255 sj).2 = some (t, m2, s5) from by rw [← HSK.out.1]; exact h)
        rw [HIT2.out, h2, HSK.out.2]
        rfl)
      have hksl : (ks ++ [str8 tx]).length ≤ j + 1 := by simp; omega
      have hksz : ∀ x ∈ ks ++ [str8 tx], x.size ≤ 20000 := by
        intro x hx
        rcases List.mem_append.1 hx with hx | hx
        · exact hkz x hx
        · simp at hx
          subst hx
          rw [str8_size]
          omega
      clear hP6 ho6 hg6 hwh6 f6 u3 hV6 hR5 hR HIT2 HSK HST HSP HTX hkn' htl htf HEQ
      have hkBc := Lib.hid hRc.kso.block
      have hlBc := Lib.hid hRc.lo.block
      have hRclt := hRc.lt
      have HCA := Lib.hid (HV.out mj sk wc (by omega) (by omega) hRc.rd)
      clear hkB hlB
      cases hval : v mj sk with
      | none =>
        obtain rfl : r = none := by rw [HR.out, HITN.out hval]
        rw [hval] at HCA
        unfold ReadSaid at HCA
        refine HCA.out.mono ?_
        rintro e w7 ⟨hg7, k7, n7, s7, a7, b7, c7, d7, e7, f7, m7, rfl⟩
        have hX7 := (hg7.block _ hRc.r.lt (fun e => by have := Option.some.inj e; omega)).trans hRc.r
        have hV7 := (hg7.block B hRc.v.lt (fun e => by have := Option.some.inj e; omega)).trans hRc.v
        have hG7 := grown_trans' hRc.frm hg7
        clear hRc hg7 hval HCA
        go_upto_region 27 with fail
        obtain ⟨W8, hW8⟩ : ∃ W8, W8 = w7.alloc (Obj.cells #[.int .u8 k7, .int .u64 n7, .string s7, .slice a7 b7 c7, .slice d7 e7 f7] 27) := ⟨_, rfl⟩
        have hb8 : Below w7.heap.size w7 W8 := by rw [hW8]; exact below_boxV _ _
        have hX8 := BoxV.kept hX7 hb8 (Nat.le_refl _)
        have hV8 := BoxV.kept hV7 hb8 (Nat.le_refl _)
        have HG8 := Lib.hid (rd_grown hG7 hb8)
        rw [← hW8]
        clear hW8 hb8 hX7 hV7 hG7
        have v0 := hV8.c0
        have v1 := hV8.c1
        have v2 := hV8.c2
        have v3 := hV8.c3
        have v4 := hV8.c4
        have x0 := hX8.c0
        have x1 := hX8.c1
        have x2 := hX8.c2
        have x3 := hX8.c3
        have x4 := hX8.c4
        have fz := hX8.fr
        have R5 := Lib.hid (hX8.put5 (.int .u8 168) (.int .u64 0) (.string ⟨#[]⟩) (.slice A6 kn6 c6) (.slice A4 xn c4))
        clear hX8 hV8
        go_wp2_with fail
        refine bodyPost_ret (results_v3 rfl _ _ w.heap.size 27 _ (0, 0) _ rfl R5.out Try.underlying27 rfl (by kernel_rfl)) rfl ?_
        exact read_none (k := 168) (nn := 0) (m := m7) rfl rfl (grown_set5 HG8.out (Nat.le_refl _) _ _ _ _ _)
      | some p =>
        obtain ⟨t, m2, s5⟩ := p
        rw [hval] at HCA
        obtain ⟨hlv1, hlv2, hlv3⟩ := HLV.out _ _ _ _ _ hval
        have HIT3 := Lib.hid (HITS.out _ _ _ hval)
        unfold ReadSaid at HCA
        refine HCA.out.mono ?_
        rintro e w7 ⟨hg7, vs, rfl, hsh7, hq7⟩
        obtain ⟨x5k, x5n, x5s, x5a, x5b, x5c, x5d, x5e, x5f, rfl⟩ := hsh7.cells5
        have hR7 := hRc.read hq7 hg7
        have hs7 := hg7.size
        clear hRc hg7 hval HCA hq7
        go_upto_region 27 with fail
        obtain ⟨W8, hW8⟩ : ∃ W8, W8 = w7.alloc (Obj.cells #[.int .u8 x5k, .int .u64 x5n, .string x5s, .slice x5a x5b x5c, .slice x5d x5e x5f] 27) := ⟨_, rfl⟩
        have hb8 : Below w7.heap.size w7 W8 := by rw [hW8]; exact below_boxV _ _
        have hs8 := hb8.size
        have hX8 : BoxV W8 w7.heap.size (.int .u8 x5k) (.int .u64 x5n) (.string x5s) (.slice x5a x5b x5c) (.slice x5d x5e x5f) := by rw [hW8]; exact BoxV.new w7
        have hR8 := hR7.step hb8
        have hsh8 : ShowsT (lowm wc.heap.size W8) t _ := hsh7.sub (low_sub hb8.size fun k _ hk => hb8.block k hk)
        rw [← hW8]
        clear hW8 hb8 hR7 hsh7
        have x0 := hX8.c0
        have x1 := hX8.c1
        have x2 := hX8.c2
        have x3 := hX8.c3
        have x4 := hX8.c4
        have v4 := hR8.v.c4
        have f4 := hR8.v.fr 4
        have hR8lt := hR8.lt
        have HB8 := Lib.hid hR8.lo.block
        have HSH8 := Lib.hid hsh8
        clear hX8 hsh8
        go_wp2_with (at_builtin
                     refine wpList_appendW valC _ rfl (.tmp 103) (.tmp 105) 25 rfl (B + 1) 27 (.agg #[.int .u8 0, .int .u64 0, .string ⟨#[]⟩, .slice none 0 0, .slice none 0 0]) 80 Try.underlying25 infoVal rfl (.slice A4 xn c4) xs rfl (hR8.lo.alloc_ _) W8.heap.size (.slice (some ⟨W8.heap.size, 0, none⟩) 1 1) [⟨x5k, x5n, x5s, x5a, x5b, x5c, x5d, x5e, x5f⟩] rfl (ShowsG.lit (C := valC) [⟨x5k, x5n, x5s, x5a, x5b, x5c, x5d, x5e, x5f⟩] (by simp [Code.all, valC, Cell5.vs]) (by simp [maxLen])) (by simp) (by simp; omega) (by simp; omega) (by simp; omega) ?_
                     intro v9 w9 ho9 hg9 hwh9
                     obtain ⟨A9, c9, e9, _⟩ := ho9.form
                     generalize hxn9 : (xs ++ [(⟨x5k, x5n, x5s, x5a, x5b, x5c, x5d, x5e, x5f⟩ : Cell5)]).length = xn9 at e9
                     subst e9
                     have hP9 := hR8.val (B := wc.heap.size) (by omega) (by omega) (fun k hk => (hkBc.out k hk).2) (fun k hk => (hlBc.out k hk).2) (t := t) (x := ⟨x5k, x5n, x5s, x5a, x5b, x5c, x5d, x5e, x5f⟩) HSH8.out ho9 hg9 hwh9
                     have hV9 : BoxV w9 B (.int .u8 168) (.int .u64 0) (.string ⟨#[]⟩) (.slice A6 kn6 c6) (.slice A4 xn c4) := (hg9.block B (by simp; omega) (fun e => by have := (HB8.out B e.symm).1; omega)).trans (hR8.v.kept ((Below.refl _ _).alloc (Nat.le_refl _) _) (Nat.le_refl _))
                     have f9 := hV9.fr 4
                     have u4 := hV9.c4
                     clear x0 x1 x2 x3 x4 v4 f4)
        go_roundw
        case rel => exact ⟨j + 1, m2, _, _, (ks ++ [str8 tx]), xs ++ [⟨x5k, x5n, x5s, x5a, x5b, x5c, x5d, x5e, x5f⟩], lT ++ [t], s5, by omega, rfl, by go_num, hP9, by simp [hlT], hksl, hksz, by omega, by omega, HIT3⟩
        case measure => simp [intOf]; omega
    · have hrf : r = finP (.node 168 0 ⟨#[]⟩ ks lT) mj sj := by
        rw [HR.out]
        by_cases hjC : j < C
        · have hsn : sj = none := Classical.byContradiction fun h => hgo ⟨hjC, h⟩
          subst hsn
          rw [HIT.out, finP_none]
          rcases HVN.out (C - j) mj with h | h <;> rw [h] <;> rfl
        · rw [HIT.out, show C - j = 0 by omega]
          simp [itemsP, pre3]
      have HRF := Lib.hid hrf
      obtain ⟨a3, n3, cc3, a4, n4, cc4, e1, e2, hSH⟩ := hR.shows (by decide) (by omega) (fun x hx => by have := hkz x hx; omega) (by omega)
      injection e1 with g1 g2 g3
      injection e2 with g4 g5 g6
      subst g1 g2 g3 g4 g5 g6
      have HSH := Lib.hid hSH
      have hX3 := hR.r
      have hV3 := hR.v
      have hq3 := hR.rd
      have hG3 := hR.frm
      have hgoH := Lib.hid hgo
      clear hrf hSH HIT HST HSP HV HLV HVN hR hgo v0
      have v0 := hV3.c0
      have v1 := hV3.c1
      have v2 := hV3.c2
      have v3 := hV3.c3
      have v4 := hV3.c4
      have fz := hX3.fr
      have u0 : wj.drew.cell? ⟨B, 0, none⟩ = _ := v0
      have u1 : wj.drew.cell? ⟨B, 1, none⟩ = _ := v1
      have u2 : wj.drew.cell? ⟨B, 2, none⟩ = _ := v2
      have u3 : wj.drew.cell? ⟨B, 3, none⟩ = _ := v3
      have u4 : wj.drew.cell? ⟨B, 4, none⟩ = _ := v4
      have z1 : wj.drew.cell? ⟨g, 1, none⟩ = _ := y1
      have fd : ∀ i, wj.drew.frozen? ⟨w.heap.size, i, none⟩ = false := fz
      have t0 : wj.drew.cell? ⟨w.heap.size, 0, none⟩ = _ := hX3.c0
      have t1 : wj.drew.cell? ⟨w.heap.size, 1, none⟩ = _ := hX3.c1
      have t2 : wj.drew.cell? ⟨w.heap.size, 2, none⟩ = _ := hX3.c2
      have t3 : wj.drew.cell? ⟨w.heap.size, 3, none⟩ = _ := hX3.c3
      have t4 : wj.drew.cell? ⟨w.heap.size, 4, none⟩ = _ := hX3.c4
      have s0 := hX3.c0
      have s1' := hX3.c1
      have s2' := hX3.c2
      have s3' := hX3.c3
      have s4 := hX3.c4
      have hX3d : BoxV wj.drew w.heap.size (.int .u8 0) (.int .u64 0) (.string ⟨#[]⟩) (.slice none 0 0) (.slice none 0 0) := hX3
      have R5 := Lib.hid (BoxV.drw (BoxV.put5 hX3 (.int .u8 168) (.int .u64 0) (.string ⟨#[]⟩) (.slice A3 kn c3) (.slice A4 xn c4)))
      have HQ5 := Lib.hid (QS.drw (QS.keep (w' := (((((wj.setCell ⟨w.heap.size, 0, none⟩ (.int .u8 168)).setCell ⟨w.heap.size, 1, none⟩ (.int .u64 0)).setCell ⟨w.heap.size, 2, none⟩ (.string ⟨#[]⟩)).setCell ⟨w.heap.size, 3, none⟩ (.slice A3 kn c3)).setCell ⟨w.heap.size, 4, none⟩ (.slice A4 xn c4))) hq3 (by simp) ((Below.heap_setCell _ _ _ _ (by show g ≠ w.heap.size; omega)).trans ((Below.heap_setCell _ _ _ _ (by show g ≠ w.heap.size; omega)).trans ((Below.heap_setCell _ _ _ _ (by show g ≠ w.heap.size; omega)).trans ((Below.heap_setCell _ _ _ _ (by show g ≠ w.heap.size; omega)).trans (Below.heap_setCell _ _ _ _ (by show g ≠ w.heap.size; omega)))))) (fun _ => (Below.heap_setCell _ _ _ _ (by show d ≠ w.heap.size; omega)).trans ((Below.heap_setCell _ _ _ _ (by show d ≠ w.heap.size; omega)).trans ((Below.heap_setCell _ _ _ _ (by show d ≠ w.heap.size; omega)).trans ((Below.heap_setCell _ _ _ _ (by show d ≠ w.heap.size; omega)).trans (Below.heap_setCell _ _ _ _ (by show d ≠ w.heap.size; omega))))))))
      have HG5 := Lib.hid (grown_drew (grown_set5 hG3 (Nat.le_refl w.heap.size) (.int .u8 168) (.int .u64 0) (.string ⟨#[]⟩) (.slice A3 kn c3) (.slice A4 xn c4)))
      have HSH5 := Lib.hid (((((((HSH.out.sub (low_set (B := B + 1) (p := w.heap.size) (by omega) 0 (.int .u8 168))).sub (low_set (B := B + 1) (p := w.heap.size) (by omega) 1 (.int .u64 0))).sub (low_set (B := B + 1) (p := w.heap.size) (by omega) 2 (.string ⟨#[]⟩))).sub (low_set (B := B + 1) (p := w.heap.size) (by omega) 3 (.slice A3 kn c3))).sub (low_set (B := B + 1) (p := w.heap.size) (by omega) 4 (.slice A4 xn c4))).sub (low_out_drew (B + 1) _)).sub (low_anti (B := w.heap.size) (B' := B + 1) (by omega)))
      clear hV3 hq3 hX3 hG3 hX3d
      by_cases hj1 : (j : Int) < (X : Int)
      case neg =>
        go_upto_region 31 with fail
        go_region
        go_wp2_with fail
        refine bodyPost_ret (results_v3 rfl _ _ w.heap.size 27 _ (0, 0) _ rfl R5.out Try.underlying27 rfl (by kernel_rfl)) rfl ?_
        rw [HRF.out]
        exact read_end (k := 168) (nn := 0) (st := ⟨#[]⟩) (n := mj) rfl rfl HG5.out HQ5.out (fun _ => HSH5.out)
      by_cases hj2 : (j : Int) < 200
      case neg =>
        go_upto_region 31 with fail
        go_region
        go_wp2_with fail
        refine bodyPost_ret (results_v3 rfl _ _ w.heap.size 27 _ (0, 0) _ rfl R5.out Try.underlying27 rfl (by kernel_rfl)) rfl ?_
        rw [HRF.out]
        exact read_end (k := 168) (nn := 0) (st := ⟨#[]⟩) (n := mj) rfl rfl HG5.out HQ5.out (fun _ => HSH5.out)
      obtain rfl : sj = none := Classical.byContradiction fun h => hgoH.out ⟨by have := HC.out; omega, h⟩
      go_upto_region 31 with fail
      go_region
      go_wp2_with fail
      refine bodyPost_ret (results_v3 rfl _ _ w.heap.size 27 _ (0, 0) _ rfl R5.out Try.underlying27 rfl (by kernel_rfl)) rfl ?_
      rw [HRF.out]
      exact read_end (k := 168) (nn := 0) (st := ⟨#[]⟩) (n := mj) rfl rfl HG5.out HQ5.out (fun _ => HSH5.out)

end Go.Proofs.Ytnafibnhmhbfiaa
/-
  The document's own read of values: a list, or a map.
  Conditions: at most 20000 bytes are left, at most 200 values.
-/
namespace Go.Proofs.Ytnafibnhmhbfiaa
open Go.RowKit
set_option linter.unusedVariables false
set_option linter.unusedSimpArgs false

set_option maxRecDepth 100000 in
set_option maxHeartbeats 16000000 in
theorem read_seq (v : Nat → St → Option (Tree × Nat × St)) (hlv : LeavesV v) (hvn : ∀ m, v m none = none) (D n g d : Nat) (s : St) (w : World) (hQ : QS w g d s) (hdg : d ≤ g) (hs : lenS s ≤ 20000) (hD : D ≤ 6) (hn : n < 200) (hK : (numS 1 s).1 = 169)
    (hv : ∀ (m1 : Nat) (s1 : St) (w1 : World), m1 < 200 → lenS s1 ≤ 20000 → QS w1 g d s1 → Calls Try.prog 52 #[.pointer (some ⟨g, 0, none⟩), .int .i64 ((D : Int) + 1), .int .i64 (m1 : Int)] w1 (ReadSaid g d w1 (v m1 s1))) :
    Calls Try.prog 52 #[.pointer (some ⟨g, 0, none⟩), .int .i64 D, .int .i64 ((n + 1 : Nat) : Int)] w (ReadSaid g d w (match itemsP v false (min (numS 4 (numS 4 (numS 1 s).2).2).1 200) n (numS 4 (numS 4 (numS 1 s).2).2).2 with | none => none | some (ks, l, m', s') => finP (.node 169 0 ⟨#[]⟩ ks l) m' s')) := by
  obtain ⟨M, hM⟩ : ∃ M : Nat, M = n + 1 := ⟨_, rfl⟩
  rw [← hM]
  have hM1 : (M : Int) - 1 = (n : Int) := by omega
  have hM2 : (M : Int) ≤ 200 := by omega
  have hM3 : decide ((n : Int) < 0) = false := by simp
  have hD6 : ¬ (6 : Int) < (D : Int) := by omega
  have hs1l : lenS (numS 1 s).2 ≤ 20000 := Nat.le_trans (numS_lenS 1 s) hs
  have hs2l : lenS (numS 4 (numS 1 s).2).2 ≤ 20000 := Nat.le_trans (numS_lenS 4 _) hs1l
  have hs3l : lenS (numS 4 (numS 4 (numS 1 s).2).2).2 ≤ 20000 := Nat.le_trans (numS_lenS 4 _) hs2l
  have hXlt : (numS 4 (numS 4 (numS 1 s).2).2).1 < 18446744073709551616 := numS_lt 4 _
  obtain ⟨r, hr⟩ : ∃ r, r = (match itemsP v false (min (numS 4 (numS 4 (numS 1 s).2).2).1 200) n (numS 4 (numS 4 (numS 1 s).2).2).2 with | none => none | some (ks, l, m', s') => finP (.node 169 0 ⟨#[]⟩ ks l) m' s') := ⟨_, rfl⟩
  rw [← hr]
  have HV := Lib.hid hv
  have HLV := Lib.hid hlv
  have HVN := Lib.hid (fun c m => itemsP_none hvn false c m)
  have HST := Lib.hid (fun c m s ks0 l0 t m' s' h => itemsP_step v false c m s ks0 l0 t m' s' h)
  have HSP := Lib.hid (fun c m s ks0 l0 h => itemsP_stop v false c m s ks0 l0 h)
  clear hv hlv hvn
  have hglt := hQ.lt
  obtain ⟨W0, hW0⟩ : ∃ W0, W0 = w.alloc (Obj.cells #[.int .u8 0, .int .u64 0, .string ⟨#[]⟩, .slice none 0 0, .slice none 0 0] 27) := ⟨_, rfl⟩
  have hb0 : Below w.heap.size w W0 := by rw [hW0]; exact below_boxV _ _
  have hs0 : W0.heap.size = w.heap.size + 1 := by rw [hW0]; simp
  have hQ0 := hQ.keep hb0.size (hb0.block g hglt) (fun hd => hb0.block d hd)
  have hX0 : BoxV W0 w.heap.size (.int .u8 0) (.int .u64 0) (.string ⟨#[]⟩) (.slice none 0 0) (.slice none 0 0) := by rw [hW0]; exact BoxV.new w
  have hg0 : w.grownBy W0 (some g) := rd_grown (grown_refl w _) hb0
  have HNU := Lib.hid (qnum_any g d s 1 W0 hQ0 (by omega))
  have hk := numS1_lt s
  generalize (numS 1 s).2 = s1 at *
  generalize (numS 1 s).1 = k at *
  have hk8 : IntKind.u8.wrap (k : Int) = (k : Int) := by rw [IntKind.wrap_u8]; omega
  have HX0 := Lib.hid hX0
  have HG0 := Lib.hid hg0
  have HS0 := Lib.hid hs0
  clear hQ hb0 hs0 hQ0 hX0 hg0
  have HR := Lib.hid hr
  have HKK := Lib.hid hK
  clear hr hM hK
  go_enter Try.func52, Try.ntmps52
  go_wp2_with fail
  rw [← hW0]
  have HW0 := Lib.hid hW0
  clear hW0
  refine HNU.out.mono ?_
  rintro e w1 ⟨rfl, hq1, hg1⟩
  have hX1 : BoxV w1 w.heap.size (.int .u8 0) (.int .u64 0) (.string ⟨#[]⟩) (.slice none 0 0) (.slice none 0 0) := (hg1.block _ (by rw [HS0.out]; omega) (fun e => by have := Option.some.inj e; omega)).trans HX0.out
  have hG1 := grown_trans' HG0.out hg1
  have hs1 := hX1.lt
  go_upto_region 3 with fail
  obtain ⟨W2, hW2⟩ : ∃ W2, W2 = w1.alloc (Obj.cells #[.int .u8 k, .int .u64 0, .string ⟨#[]⟩, .slice none 0 0, .slice none 0 0] 27) := ⟨_, rfl⟩
  have hb2 : Below w1.heap.size w1 W2 := by rw [hW2]; exact below_boxV _ _
  have hs2 : W2.heap.size = w1.heap.size + 1 := by rw [hW2]; simp
  have hV2 : BoxV W2 w1.heap.size (.int .u8 k) (.int .u64 0) (.string ⟨#[]⟩) (.slice none 0 0) (.slice none 0 0) := by rw [hW2]; exact BoxV.new w1
  have hX2 := hX1.kept hb2 (Nat.le_refl _)
  have hq2 := hq1.keep hb2.size (hb2.block g hq1.lt) (fun hd => hb2.block d hd)
  have hG2 := rd_grown hG1 hb2
  rw [← hW2]
  clear hW2 hb2 hX1 hq1 hG1 hg1
  have hK := HKK.out
  subst hK
  clear hk8 hk
  generalize hB : w1.heap.size = B at *
  have hBw : w.heap.size < B := by omega
  have hG0 : RdR w g d w.heap.size B 169 (.slice none 0 0) (.slice none 0 0) [] [] [] s1 W2 := ⟨hglt, hdg, Nat.le_refl _, hBw, hX2, hV2, OwnG.nil_ _ _ _ _, OwnG.nil_ _ _ _ _, rfl, fun q h => absurd h (by simp), fun k h => by simp [Value.ownBlock] at h, hq2, hG2⟩
  have v0 := hV2.c0
  have HN4 := Lib.hid (qnum_any g d s1 4 W2 hq2 (by omega))
  clear hX2 hV2 hq2 hG2 hs1 hs2 hB
  have hs2l' := hs2l
  have hs3l' := hs3l
  go_wp2_with fail
  refine HN4.out.mono ?_
  rintro e w3 ⟨rfl, hq3, hg3⟩
  have hG3 := hG0.read hq3 hg3
  have HN5 := Lib.hid (qnum_any g d (numS 4 s1).2 4 w3 hq3 (by omega))
  clear hq3 hg3 v0
  go_wp2_with fail
  refine HN5.out.mono ?_
  rintro e w4 ⟨rfl, hq4, hg4⟩
  have hG4 := hG3.read hq4 hg4
  clear hq4 hg4 hG3 hG0 HN4 HN5 hs2l'
  generalize (numS 4 (numS 4 s1).2).2 = s2 at *
  generalize (numS 4 (numS 4 s1).2).1 = X at *
  generalize hC : min X 200 = C at *
  have HC := Lib.hid hC
  have hC200 : C ≤ 200 := by omega
  clear hC
  go_wp2_with fail
  go_loopw [2, 11] (fun nv iv wr => ∃ (j mj : Nat) (kv lv : Value) (ks : List ByteArray) (xs : List Cell5) (lT : List Tree) (sj : St), j ≤ C ∧ nv = .int .i64 mj ∧ iv = .int .u64 j ∧ RdR w g d w.heap.size B 169 kv lv ks xs lT sj wr ∧ lT.length = j ∧ ks.length ≤ j ∧ (∀ x ∈ ks, x.size ≤ 20000) ∧ mj ≤ n ∧ lenS sj ≤ 20000 ∧
      Hid (itemsP v false C n s2 = pre3 ks lT (itemsP v false (C - j) mj sj))) (fun _ iv _ => C - (intOf iv).toNat)
  case atStart => exact ⟨0, n, _, _, [], [], [], s2, by omega, rfl, rfl, hG4, rfl, by simp, by simp, Nat.le_refl _, by omega, Lib.hid (by rw [Nat.sub_zero, pre3_nil])⟩
  case round =>
    clear hG4
    obtain ⟨j, mj, kv, lv, ks, xs, lT, sj, hj, rfl, rfl, hR, hlT, hkl, hkz, hmj, hsj, HIT⟩ := hrel
    rename World => wj
    have y1 := hR.rd.c1
    have v0 := hR.v.c0
    obtain ⟨A3, c3, ek, _⟩ := hR.kso.form
    obtain ⟨A4, c4, el, _⟩ := hR.lo.form
    generalize hkn : ks.length = kn at ek
    generalize hxn : xs.length = xn at el
    subst ek
    subst el
    by_cases hgo : j < C ∧ sj ≠ none
    · obtain ⟨hlt, hsn⟩ := hgo
      have hj1 : (j : Int) < (X : Int) := by have := HC.out; omega
      have hj2 : (j : Int) < 200 := by omega
      have hjw : IntKind.u64.wrap ((j : Int) + 1) = ((j + 1 : Nat) : Int) := by rw [IntKind.wrap_u64]; omega
      have y1' : wj.cell? ⟨g, 1, none⟩ = some (.bool false) := by
        rw [y1]
        cases sj with
        | none => exact absurd rfl hsn
        | some l => rfl
      have hCj : C - j = C - (j + 1) + 1 := by omega
      have HIT2 : Hid (itemsP v false C n s2 = pre3 ks lT (itemsP v false (C - (j + 1) + 1) mj sj)) := by rw [← hCj]; exact HIT
      have hkn' := hkn
      have hxn' := hxn
      have hxle : xn ≤ 200 := by have := hR.len; omega
      have hkB := Lib.hid hR.kso.block
      have hlB := Lib.hid hR.lo.block
      have hRlt := hR.lt
      clear y1 HIT hCj hsn
      clear hkn hxn
      have HITN : Hid (∀ (h : v mj sj = none), itemsP v false C n s2 = none) := Lib.hid (fun h => by rw [HIT2.out, HSP.out _ _ _ _ _ (show v mj sj = none from h)])
      have HITS : Hid (∀ t m2 s5, v mj sj = some (t, m2, s5) → itemsP v false C n s2 = pre3 ks (lT ++ [t]) (itemsP v false (C - (j + 1)) m2 s5)) := Lib.hid (fun t m2 s5 h => by
        have h2 := HST.out (C - (j + 1)) mj sj ks lT t m2 s5 (show v mj sj = some (t, m2, s5) from h)
        rw [HIT2.out, h2]
        simp)
      have hksl : ks.length ≤ j + 1 := by omega
      have hksz := hkz
      have hRc := hR
      clear HIT2 HST HSP hkn' hR
      go_wp2_with fail
      clear v0 y1'
      have hkBc := Lib.hid hRc.kso.block
      have hlBc := Lib.hid hRc.lo.block
      have hRclt := hRc.lt
      have HCA := Lib.hid (HV.out mj sj wj (by omega) (by omega) hRc.rd)
      clear hkB hlB
      cases hval : v mj sj with
      | none =>
        obtain rfl : r = none := by rw [HR.out, HITN.out hval]
        rw [hval] at HCA
        unfold ReadSaid at HCA
        refine HCA.out.mono ?_
        rintro e w7 ⟨hg7, k7, n7, s7, a7, b7, c7, d7, e7, f7, m7, rfl⟩
        have hX7 := (hg7.block _ hRc.r.lt (fun e => by have := Option.some.inj e; omega)).trans hRc.r
        have hV7 := (hg7.block B hRc.v.lt (fun e => by have := Option.some.inj e; omega)).trans hRc.v
        have hG7 := grown_trans' hRc.frm hg7
        clear hRc hg7 hval HCA
        go_upto_region 27 with fail
        obtain ⟨W8, hW8⟩ : ∃ W8, W8 = w7.alloc (Obj.cells #[.int .u8 k7, .int .u64 n7, .string s7, .slice a7 b7 c7, .slice d7 e7 f7] 27) := ⟨_, rfl⟩
        have hb8 : Below w7.heap.size w7 W8 := by rw [hW8]; exact below_boxV _ _
        have hX8 := BoxV.kept hX7 hb8 (Nat.le_refl _)
        have hV8 := BoxV.kept hV7 hb8 (Nat.le_refl _)
        have HG8 := Lib.hid (rd_grown hG7 hb8)
        rw [← hW8]
        clear hW8 hb8 hX7 hV7 hG7
        have v0 := hV8.c0
        have v1 := hV8.c1
        have v2 := hV8.c2
        have v3 := hV8.c3
        have v4 := hV8.c4
        have x0 := hX8.c0
        have x1 := hX8.c1
        have x2 := hX8.c2
        have x3 := hX8.c3
        have x4 := hX8.c4
        have fz := hX8.fr
        have R5 := Lib.hid (hX8.put5 (.int .u8 169) (.int .u64 0) (.string ⟨#[]⟩) (.slice A3 kn c3) (.slice A4 xn c4))
        clear hX8 hV8
        go_wp2_with fail
        refine bodyPost_ret (results_v3 rfl _ _ w.heap.size 27 _ (0, 0) _ rfl R5.out Try.underlying27 rfl (by kernel_rfl)) rfl ?_
        exact read_none (k := 169) (nn := 0) (m := m7) rfl rfl (grown_set5 HG8.out (Nat.le_refl _) _ _ _ _ _)
      | some p =>
        obtain ⟨t, m2, s5⟩ := p
        rw [hval] at HCA
        obtain ⟨hlv1, hlv2, hlv3⟩ := HLV.out _ _ _ _ _ hval
        have HIT3 := Lib.hid (HITS.out _ _ _ hval)
        unfold ReadSaid at HCA
        refine HCA.out.mono ?_
        rintro e w7 ⟨hg7, vs, rfl, hsh7, hq7⟩
        obtain ⟨x5k, x5n, x5s, x5a, x5b, x5c, x5d, x5e, x5f, rfl⟩ := hsh7.cells5
        have hR7 := hRc.read hq7 hg7
        have hs7 := hg7.size
        clear hRc hg7 hval HCA hq7
        go_upto_region 27 with fail
        obtain ⟨W8, hW8⟩ : ∃ W8, W8 = w7.alloc (Obj.cells #[.int .u8 x5k, .int .u64 x5n, .string x5s, .slice x5a x5b x5c, .slice x5d x5e x5f] 27) := ⟨_, rfl⟩
        have hb8 : Below w7.heap.size w7 W8 := by rw [hW8]; exact below_boxV _ _
        have hs8 := hb8.size
        have hX8 : BoxV W8 w7.heap.size (.int .u8 x5k) (.int .u64 x5n) (.string x5s) (.slice x5a x5b x5c) (.slice x5d x5e x5f) := by rw [hW8]; exact BoxV.new w7
        have hR8 := hR7.step hb8
        have hsh8 : ShowsT (lowm wj.heap.size W8) t _ := hsh7.sub (low_sub hb8.size fun k _ hk => hb8.block k hk)
        rw [← hW8]
        clear hW8 hb8 hR7 hsh7
        have x0 := hX8.c0
        have x1 := hX8.c1
        have x2 := hX8.c2
        have x3 := hX8.c3
        have x4 := hX8.c4
        have v4 := hR8.v.c4
        have f4 := hR8.v.fr 4
        have hR8lt := hR8.lt
        have HB8 := Lib.hid hR8.lo.block
        have HSH8 := Lib.hid hsh8
        clear hX8 hsh8
        go_wp2_with (at_builtin
                     refine wpList_appendW valC _ rfl (.tmp 103) (.tmp 105) 25 rfl (B + 1) 27 (.agg #[.int .u8 0, .int .u64 0, .string ⟨#[]⟩, .slice none 0 0, .slice none 0 0]) 80 Try.underlying25 infoVal rfl (.slice A4 xn c4) xs rfl (hR8.lo.alloc_ _) W8.heap.size (.slice (some ⟨W8.heap.size, 0, none⟩) 1 1) [⟨x5k, x5n, x5s, x5a, x5b, x5c, x5d, x5e, x5f⟩] rfl (ShowsG.lit (C := valC) [⟨x5k, x5n, x5s, x5a, x5b, x5c, x5d, x5e, x5f⟩] (by simp [Code.all, valC, Cell5.vs]) (by simp [maxLen])) (by simp) (by simp; omega) (by simp; omega) (by simp; omega) ?_
                     intro v9 w9 ho9 hg9 hwh9
                     obtain ⟨A9, c9, e9, _⟩ := ho9.form
                     generalize hxn9 : (xs ++ [(⟨x5k, x5n, x5s, x5a, x5b, x5c, x5d, x5e, x5f⟩ : Cell5)]).length = xn9 at e9
                     subst e9
                     have hP9 := hR8.val (B := wj.heap.size) (by omega) (by omega) (fun k hk => (hkBc.out k hk).2) (fun k hk => (hlBc.out k hk).2) (t := t) (x := ⟨x5k, x5n, x5s, x5a, x5b, x5c, x5d, x5e, x5f⟩) HSH8.out ho9 hg9 hwh9
                     have hV9 : BoxV w9 B (.int .u8 169) (.int .u64 0) (.string ⟨#[]⟩) (.slice A3 kn c3) (.slice A4 xn c4) := (hg9.block B (by simp; omega) (fun e => by have := (HB8.out B e.symm).1; omega)).trans (hR8.v.kept ((Below.refl _ _).alloc (Nat.le_refl _) _) (Nat.le_refl _))
                     have f9 := hV9.fr 4
                     have u4 := hV9.c4
                     clear x0 x1 x2 x3 x4 v4 f4)
        go_roundw
        case rel => exact ⟨j + 1, m2, _, _, ks, xs ++ [⟨x5k, x5n, x5s, x5a, x5b, x5c, x5d, x5e, x5f⟩], lT ++ [t], s5, by omega, rfl, by go_num, hP9, by simp [hlT], hksl, hksz, by omega, by omega, HIT3⟩
        case measure => simp [intOf]; omega
    · have hrf : r = finP (.node 169 0 ⟨#[]⟩ ks lT) mj sj := by
        rw [HR.out]
        by_cases hjC : j < C
        · have hsn : sj = none := Classical.byContradiction fun h => hgo ⟨hjC, h⟩
          subst hsn
          rw [HIT.out, finP_none]
          rcases HVN.out (C - j) mj with h | h <;> rw [h] <;> rfl
        · rw [HIT.out, show C - j = 0 by omega]
          simp [itemsP, pre3]
      have HRF := Lib.hid hrf
      obtain ⟨a3, n3, cc3, a4, n4, cc4, e1, e2, hSH⟩ := hR.shows (by decide) (by omega) (fun x hx => by have := hkz x hx; omega) (by omega)
      injection e1 with g1 g2 g3
      injection e2 with g4 g5 g6
      subst g1 g2 g3 g4 g5 g6
      have HSH := Lib.hid hSH
      have hX3 := hR.r
      have hV3 := hR.v
      have hq3 := hR.rd
      have hG3 := hR.frm
      have hgoH := Lib.hid hgo
      clear hrf hSH HIT HST HSP HV HLV HVN hR hgo v0
      have v0 := hV3.c0
      have v1 := hV3.c1
      have v2 := hV3.c2
      have v3 := hV3.c3
      have v4 := hV3.c4
      have fz := hX3.fr
      have u0 : wj.drew.cell? ⟨B, 0, none⟩ = _ := v0
      have u1 : wj.drew.cell? ⟨B, 1, none⟩ = _ := v1
      have u2 : wj.drew.cell? ⟨B, 2, none⟩ = _ := v2
      have u3 : wj.drew.cell? ⟨B, 3, none⟩ = _ := v3
      have u4 : wj.drew.cell? ⟨B, 4, none⟩ = _ := v4
      have z1 : wj.drew.cell? ⟨g, 1, none⟩ = _ := y1
      have fd : ∀ i, wj.drew.frozen? ⟨w.heap.size, i, none⟩ = false := fz
      have t0 : wj.drew.cell? ⟨w.heap.size, 0, none⟩ = _ := hX3.c0
      have t1 : wj.drew.cell? ⟨w.heap.size, 1, none⟩ = _ := hX3.c1
      have t2 : wj.drew.cell? ⟨w.heap.size, 2, none⟩ = _ := hX3.c2
      have t3 : wj.drew.cell? ⟨w.heap.size, 3, none⟩ = _ := hX3.c3
      have t4 : wj.drew.cell? ⟨w.heap.size, 4, none⟩ = _ := hX3.c4
      have s0 := hX3.c0
      have s1' := hX3.c1
      have s2' := hX3.c2
      have s3' := hX3.c3
      have s4 := hX3.c4
      have hX3d : BoxV wj.drew w.heap.size (.int .u8 0) (.int .u64 0) (.string ⟨#[]⟩) (.slice none 0 0) (.slice none 0 0) := hX3
      have R5 := Lib.hid (BoxV.drw (BoxV.put5 hX3 (.int .u8 169) (.int .u64 0) (.string ⟨#[]⟩) (.slice A3 kn c3) (.slice A4 xn c4)))
      have HQ5 := Lib.hid (QS.drw (QS.keep (w' := (((((wj.setCell ⟨w.heap.size, 0, none⟩ (.int .u8 169)).setCell ⟨w.heap.size, 1, none⟩ (.int .u64 0)).setCell ⟨w.heap.size, 2, none⟩ (.string ⟨#[]⟩)).setCell ⟨w.heap.size, 3, none⟩ (.slice A3 kn c3)).setCell ⟨w.heap.size, 4, none⟩ (.slice A4 xn c4))) hq3 (by simp) ((Below.heap_setCell _ _ _ _ (by show g ≠ w.heap.size; omega)).trans ((Below.heap_setCell _ _ _ _ (by show g ≠ w.heap.size; omega)).trans ((Below.heap_setCell _ _ _ _ (by show g ≠ w.heap.size; omega)).trans ((Below.heap_setCell _ _ _ _ (by show g ≠ w.heap.size; omega)).trans (Below.heap_setCell _ _ _ _ (by show g ≠ w.heap.size; omega)))))) (fun _ => (Below.heap_setCell _ _ _ _ (by show d ≠ w.heap.size; omega)).trans ((Below.heap_setCell _ _ _ _ (by show d ≠ w.heap.size; omega)).trans ((Below.heap_setCell _ _ _ _ (by show d ≠ w.heap.size; omega)).trans ((Below.heap_setCell _ _ _ _ (by show d ≠ w.heap.size; omega)).trans (Below.heap_setCell _ _ _ _ (by show d ≠ w.heap.size; omega))))))))
      have HG5 := Lib.hid (grown_drew (grown_set5 hG3 (Nat.le_refl w.heap.size) (.int .u8 169) (.int .u64 0) (.string ⟨#[]⟩) (.slice A3 kn c3) (.slice A4 xn c4)))
      have HSH5 := Lib.hid (((((((HSH.out.sub (low_set (B := B + 1) (p := w.heap.size) (by omega) 0 (.int .u8 169))).sub (low_set (B := B + 1) (p := w.heap.size) (by omega) 1 (.int .u64 0))).sub (low_set (B := B + 1) (p := w.heap.size) (by omega) 2 (.string ⟨#[]⟩))).sub (low_set (B := B + 1) (p := w.heap.size) (by omega) 3 (.slice A3 kn c3))).sub (low_set (B := B + 1) (p := w.heap.size) (by omega) 4 (.slice A4 xn c4))).sub (low_out_drew (B + 1) _)).sub (low_anti (B := w.heap.size) (B' := B + 1) (by omega)))
      clear hV3 hq3 hX3 hG3 hX3d
      by_cases hj1 : (j : Int) < (X : Int)
      case neg =>
        go_upto_region 31 with fail
        go_region
        go_wp2_with fail
        refine bodyPost_ret (results_v3 rfl _ _ w.heap.size 27 _ (0, 0) _ rfl R5.out Try.underlying27 rfl (by kernel_rfl)) rfl ?_
        rw [HRF.out]
        exact read_end (k := 169) (nn := 0) (st := ⟨#[]⟩) (n := mj) rfl rfl HG5.out HQ5.out (fun _ => HSH5.out)
      by_cases hj2 : (j : Int) < 200
      case neg =>
        go_upto_region 31 with fail
        go_region
        go_wp2_with fail
        refine bodyPost_ret (results_v3 rfl _ _ w.heap.size 27 _ (0, 0) _ rfl R5.out Try.underlying27 rfl (by kernel_rfl)) rfl ?_
        rw [HRF.out]
        exact read_end (k := 169) (nn := 0) (st := ⟨#[]⟩) (n := mj) rfl rfl HG5.out HQ5.out (fun _ => HSH5.out)
      obtain rfl : sj = none := Classical.byContradiction fun h => hgoH.out ⟨by have := HC.out; omega, h⟩
      go_upto_region 31 with fail
      go_region
      go_wp2_with fail
      refine bodyPost_ret (results_v3 rfl _ _ w.heap.size 27 _ (0, 0) _ rfl R5.out Try.underlying27 rfl (by kernel_rfl)) rfl ?_
      rw [HRF.out]
      exact read_end (k := 169) (nn := 0) (st := ⟨#[]⟩) (n := mj) rfl rfl HG5.out HQ5.out (fun _ => HSH5.out)

end Go.Proofs.Ytnafibnhmhbfiaa
