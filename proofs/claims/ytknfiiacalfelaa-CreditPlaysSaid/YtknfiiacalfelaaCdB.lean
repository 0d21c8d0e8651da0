/-
  The document's Add and Remove.
  Conditions: none but sizes.
-/
import Derived.Test.YtknfiiacalfelaaCdA
namespace Go.Proofs.Ytknfiiacalfelaa
open Go.RowKit Go.Shelf
set_option linter.unusedVariables false
set_option linter.unusedSimpArgs false
set_option maxRecDepth 100000

section
variable {w w' : World} {B qb : Nat} {q : CP}
set_option maxHeartbeats 2000000 in
theorem dadd_any (h : DW w B qb q) (ho : q.ok) (hn : q.l.length ≤ 1000000) (t : Tg) (ht : t.length ≤ 140737488355328) : Calls Try.prog 10 #[.pointer (some ⟨qb, 0, none⟩), .string (str8 t)] w (AnsD w B qb (q.add t)) := by
  have HF := Lib.hid (dfind_any h hn t)
  have H0 := Lib.hid (LeftD.same h)
  obtain ⟨n, hnl⟩ : ∃ n, n = t.length := ⟨_, rfl⟩
  have hsz : (str8 t).size = n := by rw [hnl]; rfl
  unfold AnsD CP.add
  by_cases h0 : isTag t
  · rw [if_pos h0]
    have b1 : ¬ (n : Int) < 1 := by have := List.length_pos_iff.2 h0.1; omega
    have b2 : ¬ (40 : Int) < (n : Int) := by have := h0.2; omega
    have b3 : ¬ n < 1 := by omega
    have b4 : ¬ 40 < n := by omega
    have b5 : ¬ n = 0 := by omega
    by_cases hs : (getA t q.l).isSome = true
    · obtain ⟨i, hi⟩ := foundA ho.nod hs
      rw [hi.idx] at HF
      rw [if_pos hs]
      clear h ho hi hs h0 hnl ht
      go_enter Try.func10, Try.ntmps10
      go_wp2_with fail
      refine HF.out.mono ?_
      rintro e w1 ⟨rfl, rfl⟩
      unfold placeT
      go_wp2_with fail
      go_ret
      exact ⟨rfl, H0.out⟩
    · rw [notA hs] at HF
      rw [if_neg hs]
      obtain ⟨A, c, h1⟩ := h
      have c0 := h1.c0
      have HQ := Lib.hid h1
      have hfr := h1.fr 0
      have hlt := h1.lt
      have hb5 : Below w.heap.size w (w.alloc (.cells #[.string (str8 t), .int .u64 0] 46)) := (Below.refl _ _).alloc (Nat.le_refl _) _
      have hm5 : ShowsG subC (w.alloc (.cells #[.string (str8 t), .int .u64 0] 46)) w.heap.size (.slice (some ⟨w.heap.size, 0, none⟩) 1 1) [(t, 0)] := ShowsG.lit (C := subC) [(t, 0)] (by simp [Code.all, subC]) (by simp [maxLen])
      have h5 := h1.below hb5
      have hz5 : B ≤ (w.alloc (.cells #[.string (str8 t), .int .u64 0] 46)).heap.size := by have := hb5.size; have := h1.hB; omega
      have HL : Hid ((q.l.length + [(t, 0)].length) * 24 ≤ 140737488355328 ∧ q.l.length + [(t, 0)].length ≤ 140737488355328) := Lib.hid (by simp; omega)
      have hk5 : Hid (LeftD w B qb q (w.alloc (.cells #[.string (str8 t), .int .u64 0] 46))) := Lib.hid (LeftD.of_below ⟨A, c, h1⟩ hb5)
      clear h1 hs ho h0 hnl ht H0
      go_enter Try.func10, Try.ntmps10
      go_upto_region 5 with (go_at_call 21; refine HF.out.mono ?_; rintro e w1 ⟨rfl, rfl⟩; unfold placeT)
      go_upto_region 6 with (at_builtin
                             refine wpList_appendG subC _ rfl (.tmp 21) (.tmp 24) 26 rfl B 46 _ 24 Try.underlying26 infoSub rfl _ q.l rfl h5.row w.heap.size _ [(t, 0)] rfl hm5 HL.out.1 HL.out.2 hz5 ?_
                             intro v6 w6 ho6 hg6
                             obtain ⟨A6, c6, hv6, _, _⟩ := ho6.form
                             obtain ⟨n1, hn1⟩ : ∃ n, n = (q.l ++ [(t, 0)]).length := ⟨_, rfl⟩
                             rw [← hn1] at hv6
                             have HN1 := Lib.hid hn1
                             clear hn1
                             subst hv6
                             have hbx := (h5.boxOf hg6).trans h5.box
                             have hf6 := frozen_of_row _ qb 0 _ 28 hbx
                             have hc6 := cell_of_row _ qb 0 _ 28 (0, 0) hbx)
      have HFIN := Lib.hid (LeftD.grew hk5.out h5 hg6 ho6 HN1.out)
      clear hbx hf6 hc6 ho6 hg6 h5 hm5 hb5
      go_wp2_with fail
      first | go_end0 | refine bodyPost_ret (results_none rfl _ _ _) rfl ?_ | go_ret
      exact ⟨rfl, HFIN.out⟩
  · rw [if_neg h0]
    have hb : n = 0 ∨ 40 < n := by
      by_cases e : t = []
      · subst e; exact .inl hnl
      · right
        refine Nat.lt_of_not_le fun hle => h0 ⟨e, by omega⟩
    clear h ho h0 hnl ht HF
    rcases hb with rfl | hb
    · go_enter Try.func10, Try.ntmps10
      go_wp2_with fail
      go_ret
      exact ⟨rfl, H0.out⟩
    · have b1 : ¬ (n : Int) < 1 := by omega
      have b2 : (40 : Int) < (n : Int) := by omega
      have b3 : ¬ n < 1 := by omega
      have b5 : ¬ n = 0 := by omega
      go_enter Try.func10, Try.ntmps10
      go_wp2_with fail
      go_ret
      exact ⟨rfl, H0.out⟩
theorem succ_wrapsD {i i1 : Nat} (e : i1 = i + 1) (h : i1 ≤ 1000000) : IntKind.i64.wrap ((i : Int) + 1) = (i1 : Int) ∧ wrap64 ((i : Int) + 1) = (i1 : Int) := by
  subst e
  have e : (i : Int) + 1 = ((i + 1 : Nat) : Int) := by omega
  rw [e]
  exact ⟨i64_id _ (by omega) (by omega), w64_id _ (by omega) (by omega)⟩
theorem pred_wrapsD {i k : Nat} (e : i = k + 1) (h : i ≤ 1000000) : IntKind.i64.wrap ((i : Int) - 1) = (k : Int) ∧ wrap64 ((i : Int) - 1) = (k : Int) := by
  subst e
  have e : ((k + 1 : Nat) : Int) - 1 = (k : Int) := by omega
  rw [e]
  exact ⟨i64_id _ (by omega) (by omega), w64_id _ (by omega) (by omega)⟩
set_option maxHeartbeats 4000000 in
theorem dremove_any (h : DW w B qb q) (ho : q.ok) (hn : q.l.length ≤ 1000000) (t : Tg) : Calls Try.prog 12 #[.pointer (some ⟨qb, 0, none⟩), .string (str8 t)] w (AnsD w B qb (q.remove t)) := by
  have HF := Lib.hid (dfind_any h hn t)
  have H0 := Lib.hid (LeftD.same h)
  unfold AnsD CP.remove
  by_cases hs : (getA t q.l).isSome = true
  case neg =>
    rw [notA hs] at HF
    rw [if_neg hs]
    clear h hs ho
    go_enter Try.func12, Try.ntmps12
    go_wp2_with fail
    refine HF.out.mono ?_
    rintro e w1 ⟨rfl, rfl⟩
    unfold placeT
    go_wp2_with fail
    go_ret
    exact ⟨rfl, H0.out⟩
  obtain ⟨i, hi⟩ := foundA ho.nod hs
  rw [hi.idx] at HF
  rw [if_pos hs]
  unfold CP.rm
  have hil := hi.lt
  obtain ⟨A, c, h1⟩ := h
  have c0 := h1.c0
  have c1 := h1.c1
  have f1 := h1.fr 1
  obtain ⟨b, rfl, hbq, k0, k1, kf⟩ := h1.at_ hil
  obtain ⟨g, hg1, hsh⟩ := h1.row.shows
  obtain ⟨_, hlc, hcm⟩ := hsh.lens
  obtain ⟨i1, hi1⟩ : ∃ i1, i1 = i + 1 := ⟨_, rfl⟩
  have hi1' : i1 ≤ q.l.length := by rw [hi1]; exact hil
  obtain ⟨bw, bw'⟩ := succ_wrapsD hi1 (Nat.le_trans hi1' hn)
  have hdel : delA t q.l = q.l.take i ++ q.l.drop i1 := by rw [hi1]; exact hi.del
  have hB := h1.hB
  have HTAIL : Hid (∀ W la, DI W B qb (some ⟨b, 0, none⟩) c ⟨q.l, la⟩ → LeftD w B qb ⟨q.l, la⟩ W →
      ShowsG subC W g (.slice (some ⟨b, 0, none⟩) i c) (q.l.take i) ∧
      (∀ w1, Below W.heap.size W w1 → ∀ (A' : Option Addr) (c' : Nat), (¬ c = i1 → A' = (some (⟨b, 0, none⟩ : Addr)).map (fun x => x.add (i1 * 2))) → q.l.length - i1 ≤ c' → c' ≤ maxLen → ShowsG subC w1 g (.slice A' (q.l.length - i1) c') (q.l.drop i1)) ∧
      (∀ w1, Below W.heap.size W w1 → w1.cell? ⟨qb, 0, none⟩ = some (.slice (some ⟨b, 0, none⟩) q.l.length c) ∧ w1.frozen? ⟨qb, 0, none⟩ = false) ∧
      (∀ w2 A2 n2 c2, Below W.heap.size W w2 → OwnG subC 46 w2 W.heap.size (.slice A2 n2 c2) (q.l.take i ++ q.l.drop i1) → n2 = (q.l.take i ++ q.l.drop i1).length → LeftD w B qb ⟨delA t q.l, la⟩ (w2.setCell ⟨qb, 0, none⟩ (.slice A2 n2 c2)))) := Lib.hid fun W la hd hk => by
    obtain ⟨g', hg', hshW⟩ := hd.row.shows
    have eg : g' = g := by
      obtain ⟨o1, e1, _⟩ := hshW.at_ (by show 0 < q.l.length; omega)
      obtain ⟨o2, e2, _⟩ := hsh.at_ (by omega)
      cases e1
      cases e2
      rfl
    subst eg
    have hgw := hshW.lt (by show 0 < q.l.length; omega)
    refine ⟨hshW.head (k := i) (by show i ≤ q.l.length; omega), fun w1 hb1 A' c' hA e1 e2 => (hshW.below hb1 hgw).tail' (k := i1) hi1' A' (fun h => hA (by have h : i1 < q.l.length := h; omega)) e1 e2, fun w1 hb1 => ⟨(hd.below hb1).c0, (hd.below hb1).fr 0⟩, fun w2 A2 n2 c2 hb2 ho2 hn2 => ?_⟩
    have hd2 := hd.below hb2
    have := hd.lt
    have := LeftD.rowS (w0 := w) (hk.kept.trans (KeptBy.of_below hb2)) (hk.bel.trans (hb2.mono (by omega))) hd2.box hB (ho2.mono (by omega)) hn2
    rw [hdel]
    exact this
  have HL := Lib.hid (And.intro hi1' (And.intro hlc (And.intro hcm (And.intro hn hi1))))
  have b0 : ¬ (i : Int) < 0 := by omega
  have b1 : (i : Int) < (q.l.length : Int) := by omega
  have b2 : (i : Int) ≤ (q.l.length : Int) := Int.ofNat_le.2 (Nat.le_of_lt hil)
  have b3 : (i : Int) ≤ (c : Int) := Int.ofNat_le.2 (Nat.le_trans (Nat.le_of_lt hil) hlc)
  have b4 : (i1 : Int) ≤ (q.l.length : Int) := Int.ofNat_le.2 hi1'
  have b5 : (i1 : Int) ≤ (c : Int) := Int.ofNat_le.2 (Nat.le_trans hi1' hlc)
  by_cases hla : q.last = t
  case neg =>
    have ht : ((str8 q.last).toList == (str8 t).toList) = false := str8_ne hla
    rw [if_neg hla]
    have HD1 := Lib.hid h1
    have HK1 := Lib.hid (LeftD.same (q := q) ⟨_, _, h1⟩)
    clear ho hs hi h1 k0 k1 kf hsh hg1 hi1 hlc hcm hdel hbq hla H0 hil hi1' f1
    go_enter Try.func12, Try.ntmps12
    go_upto_region 8 with (go_at_call 21; refine HF.out.mono ?_; rintro e w1 ⟨rfl, rfl⟩; unfold placeT)
    clear ht c1
    obtain ⟨W, hW⟩ : ∃ W, W = w := ⟨_, rfl⟩
    subst hW
    obtain ⟨hsW, htW, hcW, hfW⟩ := HTAIL.out _ _ (HD1.out) (HK1.out)
    have HS := Lib.hid hsW
    have HT := Lib.hid htW
    have HC := Lib.hid hcW
    have HFI := Lib.hid hfW
    clear hsW htW hcW hfW
    have c0 := (HC.out _ (Below.refl _ _)).1
    go_wp2_with (first
      | (at_builtin
         refine wpList_appendG subC _ rfl (.tmp 35) (.tmp 41) 26 rfl W.heap.size 46 _ 24 Try.underlying26 infoSub rfl (.slice none 0 0) [] rfl (OwnG.nil_ _ _ _ _) g _ (q.l.take i) rfl HS.out (by have := HL.out; simp; omega) (by have := HL.out; simp; omega) (Nat.le_refl _) ?_
         intro v1 w1 ho1 hg1
         have hb1 := (Below.refl W.heap.size W).grown hg1 (Nat.le_refl _) (fun j hj => by cases hj)
         have c11 := (HC.out w1 hb1).1
         rw [List.nil_append] at ho1)
      | (at_builtin
         refine wpList_appendG subC _ rfl (.tmp 44) (.tmp 51) 26 rfl W.heap.size 46 _ 24 Try.underlying26 infoSub rfl _ (q.l.take i) rfl ho1 g _ (q.l.drop i1) rfl (HT.out w1 hb1 _ _ (by intro h; first | exact absurd rfl h | (simp [add_plain']; done) | (rw [if_neg h]; simp [add_plain']; done) | exact absurd (by assumption) h) (by have := HL.out; omega) (by have := HL.out; omega)) (by have := HL.out; simp; omega) (by have := HL.out; simp; omega) hb1.size ?_
         intro v2 w2 ho2 hg2
         have hb2 := hb1.grown hg2 hb1.size (fun j hj => (ho1.block j hj).1)
         obtain ⟨A2, c2, hv2, _, _⟩ := ho2.form
         obtain ⟨n2, hn2⟩ : ∃ n, n = (q.l.take i ++ q.l.drop i1).length := ⟨_, rfl⟩
         rw [← hn2] at hv2
         subst hv2
         have HFIN := Lib.hid (HFI.out w2 A2 n2 c2 hb2 ho2 hn2)
         obtain ⟨c12, f12⟩ := HC.out w2 hb2
         clear hn2))
    all_goals
      go_ret
      exact ⟨rfl, HFIN.out⟩
  case pos =>
    have ht : ((str8 q.last).toList == (str8 t).toList) = true := by rw [hla]; simp
    rw [if_pos hla]
    have hd1 : DI (w.setCell ⟨qb, 1, none⟩ (.string ⟨#[]⟩)) B qb (some ⟨b, 0, none⟩) c ⟨q.l, []⟩ := h1.lastS []
    have hk1 : LeftD w B qb ⟨q.l, []⟩ (w.setCell ⟨qb, 1, none⟩ (.string ⟨#[]⟩)) := LeftD.lastS h1 []
    by_cases hi0 : i = 0
    · have b6 : ¬ (0 : Int) < (i : Int) := by omega
      rw [hi.prev0 hi0]
      obtain ⟨W, hW⟩ : ∃ W, W = w.setCell ⟨qb, 1, none⟩ (.string ⟨#[]⟩) := ⟨_, rfl⟩
      rw [← hW] at hd1 hk1
      have HD1 := Lib.hid hd1
      have HK1 := Lib.hid hk1
      have HWW := Lib.hid hW
      clear ho hs hi h1 k0 k1 kf hsh hg1 hi1 hlc hcm hdel hbq hla H0 hil hi1' hd1 hk1 hi0 hW
      go_enter Try.func12, Try.ntmps12
      go_upto_region 8 with (go_at_call 21; refine HF.out.mono ?_; rintro e w1 ⟨rfl, rfl⟩; unfold placeT)
      rw [← HWW.out]
      clear ht c1 c0 f1
      obtain ⟨hsW, htW, hcW, hfW⟩ := HTAIL.out _ _ (HD1.out) (HK1.out)
      have HS := Lib.hid hsW
      have HT := Lib.hid htW
      have HC := Lib.hid hcW
      have HFI := Lib.hid hfW
      clear hsW htW hcW hfW
      have c0 := (HC.out _ (Below.refl _ _)).1
      go_wp2_with (first
        | (at_builtin
           refine wpList_appendG subC _ rfl (.tmp 35) (.tmp 41) 26 rfl W.heap.size 46 _ 24 Try.underlying26 infoSub rfl (.slice none 0 0) [] rfl (OwnG.nil_ _ _ _ _) g _ (q.l.take i) rfl HS.out (by have := HL.out; simp; omega) (by have := HL.out; simp; omega) (Nat.le_refl _) ?_
           intro v1 w1 ho1 hg1
           have hb1 := (Below.refl W.heap.size W).grown hg1 (Nat.le_refl _) (fun j hj => by cases hj)
           have c11 := (HC.out w1 hb1).1
           rw [List.nil_append] at ho1)
        | (at_builtin
           refine wpList_appendG subC _ rfl (.tmp 44) (.tmp 51) 26 rfl W.heap.size 46 _ 24 Try.underlying26 infoSub rfl _ (q.l.take i) rfl ho1 g _ (q.l.drop i1) rfl (HT.out w1 hb1 _ _ (by intro h; first | exact absurd rfl h | (simp [add_plain']; done) | (rw [if_neg h]; simp [add_plain']; done) | exact absurd (by assumption) h) (by have := HL.out; omega) (by have := HL.out; omega)) (by have := HL.out; simp; omega) (by have := HL.out; simp; omega) hb1.size ?_
           intro v2 w2 ho2 hg2
           have hb2 := hb1.grown hg2 hb1.size (fun j hj => (ho1.block j hj).1)
           obtain ⟨A2, c2, hv2, _, _⟩ := ho2.form
           obtain ⟨n2, hn2⟩ : ∃ n, n = (q.l.take i ++ q.l.drop i1).length := ⟨_, rfl⟩
           rw [← hn2] at hv2
           subst hv2
           have HFIN := Lib.hid (HFI.out w2 A2 n2 c2 hb2 ho2 hn2)
           obtain ⟨c12, f12⟩ := HC.out w2 hb2
           clear hn2))
      all_goals
        go_ret
        exact ⟨rfl, HFIN.out⟩
    · obtain ⟨k, hk⟩ : ∃ k, i = k + 1 := ⟨i - 1, by omega⟩
      have b6 : (0 : Int) < (i : Int) := by omega
      have b7 : (k : Int) < (q.l.length : Int) := by omega
      obtain ⟨u1, u2⟩ := pred_wrapsD hk (by omega)
      have hkl : k < q.l.length := by omega
      have hpv : prevA t [] q.l = q.l[k].1 := by
        have := hi.prev1 (by omega) (by omega)
        rw [this]
        congr 2
        omega
      rw [hpv]
      obtain ⟨b', hb', k6, k3, k4, k5⟩ := hd1.at_ (j := k) hkl
      cases hb'
      have k3' : (w.setCell ⟨qb, 1, none⟩ (.string ⟨#[]⟩)).cell? ⟨b, k * 2, none⟩ = some (.string (str8 q.l[k].1)) := k3
      have c0' := hd1.c0
      have f1' := hd1.fr 1
      have hd2 := hd1.lastS q.l[k].1
      have hk2 := hk1.trans (LeftD.lastS hd1 q.l[k].1)
      generalize q.l[k].1 = pv at *
      obtain ⟨W, hW⟩ : ∃ W, W = (w.setCell ⟨qb, 1, none⟩ (.string ⟨#[]⟩)).setCell ⟨qb, 1, none⟩ (.string (str8 pv)) := ⟨_, rfl⟩
      rw [← hW] at hd2 hk2
      have HD1 := Lib.hid hd2
      have HK1 := Lib.hid hk2
      have HWW := Lib.hid hW
      clear ho hs hi h1 k0 k1 kf hsh hg1 hi1 hlc hcm hdel hbq hla H0 hil hi1' hd1 hk1 hi0 hW hk hpv k3 hd2 hk2 k4 k5 k6 hkl
      go_enter Try.func12, Try.ntmps12
      go_upto_region 8 with (go_at_call 21; refine HF.out.mono ?_; rintro e w1 ⟨rfl, rfl⟩; unfold placeT)
      rw [← HWW.out]
      clear ht c1 c0 f1 k3' c0' f1'
      obtain ⟨hsW, htW, hcW, hfW⟩ := HTAIL.out _ _ (HD1.out) (HK1.out)
      have HS := Lib.hid hsW
      have HT := Lib.hid htW
      have HC := Lib.hid hcW
      have HFI := Lib.hid hfW
      clear hsW htW hcW hfW
      have c0 := (HC.out _ (Below.refl _ _)).1
      go_wp2_with (first
        | (at_builtin
           refine wpList_appendG subC _ rfl (.tmp 35) (.tmp 41) 26 rfl W.heap.size 46 _ 24 Try.underlying26 infoSub rfl (.slice none 0 0) [] rfl (OwnG.nil_ _ _ _ _) g _ (q.l.take i) rfl HS.out (by have := HL.out; simp; omega) (by have := HL.out; simp; omega) (Nat.le_refl _) ?_
           intro v1 w1 ho1 hg1
           have hb1 := (Below.refl W.heap.size W).grown hg1 (Nat.le_refl _) (fun j hj => by cases hj)
           have c11 := (HC.out w1 hb1).1
           rw [List.nil_append] at ho1)
        | (at_builtin
           refine wpList_appendG subC _ rfl (.tmp 44) (.tmp 51) 26 rfl W.heap.size 46 _ 24 Try.underlying26 infoSub rfl _ (q.l.take i) rfl ho1 g _ (q.l.drop i1) rfl (HT.out w1 hb1 _ _ (by intro h; first | exact absurd rfl h | (simp [add_plain']; done) | (rw [if_neg h]; simp [add_plain']; done) | exact absurd (by assumption) h) (by have := HL.out; omega) (by have := HL.out; omega)) (by have := HL.out; simp; omega) (by have := HL.out; simp; omega) hb1.size ?_
           intro v2 w2 ho2 hg2
           have hb2 := hb1.grown hg2 hb1.size (fun j hj => (ho1.block j hj).1)
           obtain ⟨A2, c2, hv2, _, _⟩ := ho2.form
           obtain ⟨n2, hn2⟩ : ∃ n, n = (q.l.take i ++ q.l.drop i1).length := ⟨_, rfl⟩
           rw [← hn2] at hv2
           subst hv2
           have HFIN := Lib.hid (HFI.out w2 A2 n2 c2 hb2 ho2 hn2)
           obtain ⟨c12, f12⟩ := HC.out w2 hb2
           clear hn2))
      all_goals
        go_ret
        exact ⟨rfl, HFIN.out⟩
end

end Go.Proofs.Ytknfiiacalfelaa
