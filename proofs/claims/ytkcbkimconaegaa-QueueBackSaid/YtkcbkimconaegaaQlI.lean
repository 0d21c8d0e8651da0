/-
  What comes back stands where it stood: for any numbers of messages, any that are out and any that come back.
  Conditions: none.
-/
import Derived.Test.YtkcbkimconaegaaQlH
import Derived.Test.YtkcbkimconaegaaQlO
import Derived.Test.YtkcbkimconaegaaRows
namespace Go.Proofs.Ytkcbkimconaegaa
open Go.ChangeShapes Go.WideShapes Go.ChangeAt Go.RowKit Go.Shelf
set_option linter.unusedVariables false
set_option linter.unusedSimpArgs false
set_option maxRecDepth 100000

theorem fnQ_congr {n : Nat} {o o2 : Nat → Nat} (h : ∀ k, k < n → o k = o2 k) : fnQ n o = fnQ n o2 := by unfold fnQ; rw [fnL_congr h]
theorem backL_at {W : Nat → Bool} {i k : Nat} (h1 : k < (backL W i).length) (h2 : k < (backP W i).length) : (backL W i)[k] = (backP W i)[k] + 1 := List.getElem_map (fun x => x + 1) (l := backP W i) (h := h1)
/-- Who has which, ahead of what comes back at place i. -/
def o3 (W : Nat → Bool) (K i k : Nat) : Nat := if k < K then (if k < i ∧ W k = true then 0 else 5) else 0
theorem o3_start (W : Nat → Bool) (n K : Nat) : fnQ n (fun k => if k < K then 5 else 0) = fnQ n (o3 W K 0) := fnQ_congr fun k _ => by unfold o3; simp
theorem o3_no {W : Nat → Bool} {n K i : Nat} (h : W i = false) : fnQ n (o3 W K (i + 1)) = fnQ n (o3 W K i) := fnQ_congr fun k _ => by
  unfold o3
  by_cases he : k = i
  · subst he; simp [h]
  · by_cases h1 : k < K
    · rw [if_pos h1, if_pos h1]
      by_cases h2 : k < i
      · simp [h2, show k < i + 1 by omega]
      · simp [h2, show ¬ k < i + 1 by omega]
    · rw [if_neg h1, if_neg h1]
theorem o3_yes {W : Nat → Bool} {n K i : Nat} (h : W i = true) (hK : i < K) : fnQ n (fun k => if k = i then 0 else o3 W K i k) = fnQ n (o3 W K (i + 1)) := fnQ_congr fun k _ => by
  unfold o3
  by_cases he : k = i
  · subst he; simp [h, hK]
  · rw [if_neg he]
    by_cases h1 : k < K
    · rw [if_pos h1, if_pos h1]
      by_cases h2 : k < i
      · simp [h2, show k < i + 1 by omega]
      · simp [h2, show ¬ k < i + 1 by omega]
    · rw [if_neg h1, if_neg h1]
theorem o3_at {W : Nat → Bool} {K i : Nat} (hK : i < K) : o3 W K i i = 5 := by unfold o3; simp [hK]
theorem o3_back {W : Nat → Bool} {n K : Nat} (hW : ∀ k, K ≤ k → W k = true) : BackQ W n 0 (o3 W K K) :=
  ⟨fun k hk => by simp at hk, fun k h1 h2 _ => by unfold o3; by_cases h : k < K <;> simp [h, h2], fun k h1 h2 => by
    have h : k < K := by
      rcases Nat.lt_or_ge k K with h | h
      · exact h
      · rw [hW k h] at h2; cases h2
    unfold o3
    simp [h, h2]⟩
section
variable {w0 w w' : World} {pb : Nat} {p : QP} {X : Nat → Prop}
theorem UnX.all (h : UnX w0 pb p X w) (hn : p.l.length ≤ 1000000) : Calls Try.prog 17 #[.pointer (some ⟨pb, 0, none⟩)] w (NumsQ w (allQ p.l)) := by
  obtain ⟨F, h1, _⟩ := h.one
  exact pall_any h1 h.ok hn
theorem UnX.of (h : UnX w0 pb p X w) (hn : p.l.length ≤ 1000000) (ow : Nat) (hi : ow < 18446744073709551616) : Calls Try.prog 19 #[.pointer (some ⟨pb, 0, none⟩), .int .u64 ow] w (NumsQ w (ofP ow p.l)) := by
  obtain ⟨F, h1, _⟩ := h.one
  exact pof_any h1 h.ok hn ow hi
end

set_option maxHeartbeats 16000000 in
theorem qback_walk (many out : Nat) (A : Option Addr) (kc d : Nat) (bs : List Bool) (w : World) (hm : many < 256) (ho : out < 256) (h1 : ShowsG flagC w d (.slice A bs.length kc) bs) (hl : bs.length ≤ 1000000000000000) :
    Calls Try.prog 5 #[.int .u8 many, .int .u8 out, .slice A bs.length kc] w fun e w' => e = .returned (.bool true) ∧ Below w.heap.size w w' := by
  have HN := Lib.hid (fun w' => pnewQ_any 100 w' (by omega))
  rw [show min 100 4611686018427387904 = 100 from rfl] at HN
  have HH := Lib.hid (fun w' (hb : Below w.heap.size w w') => (qhead_any w').mono fun e w'' (he : e = .returned (.bool true) ∧ Below w'.heap.size w' w'') => (⟨he.1, hb.trans (he.2.mono hb.size)⟩ : e = .returned (.bool true) ∧ Below w.heap.size w w''))
  have HC1 := Lib.hid (fun (j : Nat) (hj : j < bs.length) => show ∃ o, A = some ⟨d, o, none⟩ ∧ (∀ w', Below w.heap.size w w' → w'.cell? ⟨d, o + j, none⟩ = some (.bool bs[j])) from by
    obtain ⟨o, e, hd, hc⟩ := h1.at_ (by omega)
    refine ⟨o, e, fun w' hb => ?_⟩
    have := hc j hj 0 (by decide)
    simp only [flagC, Nat.mul_one, Nat.add_zero] at this
    exact (World.cell?_of_block (w := w) (hb.block d hd)).trans this)
  obtain ⟨n, hn⟩ : ∃ n, n = many % 61 := ⟨_, rfl⟩
  obtain ⟨K, hK⟩ : ∃ K, K = out % (n + 1) := ⟨_, rfl⟩
  have hn61 : n < 61 := by omega
  have hKn : K ≤ n := by have := Nat.mod_lt out (show 0 < n + 1 by omega); omega
  have r1 : (many : Int) % 61 = (n : Int) := by omega
  have r2 : IntKind.i64.wrap ((n : Int) + 1) = (n : Int) + 1 := i64_id _ (by omega) (by omega)
  have r3 : (out : Int) % ((n : Int) + 1) = (K : Int) := by rw [hK]; simp
  have r4 : ¬ (n : Int) + 1 = 0 := by omega
  have r5 : ((n : Int) + 1 == 0) = false := by rw [beq_eq_false_iff_ne]; omega
  have r6 : ((out : Int)).tmod ((n : Int) + 1) = (K : Int) := by rw [Int.tmod_eq_emod_of_nonneg (by omega)]; exact r3
  obtain ⟨W, hW⟩ : ∃ W : Nat → Bool, W = fun k => decide (K ≤ k) || bs.getD k false := ⟨_, rfl⟩
  clear h1 hn hK
  go_enter Try.func5, Try.ntmps5
  go_upto_region 3 with fail
  rw [r1]
  clear r1 r2 r3 r4 r5 r6 hm ho
  go_wp2_with fail
  refine (HN.out _).mono ?_
  rintro e w1 ⟨pb, F, rfl, hp1, hb1⟩
  have hQ0 : (⟨100, [], 0, 0⟩ : QP).ok := ⟨by show 100 ≤ _; omega, by show 0 + 0 ≤ 100; omega, fun x hx => (by cases hx), by show 0 < 18446744073709551616; omega, List.Pairwise.nil, fun x hx => (by cases hx)⟩
  have HS0 : Hid (OrdS w pb (.slice none 0 0) [] (fnQ 0 (fun _ => 0)) w1) := Lib.hid ⟨UnX.of_below hb1 ⟨F, hp1⟩ hQ0 (fun k hk => (by cases hk)), OwnG.nil_ _ _ _ _⟩
  clear hp1 hb1 hQ0 HN
  go_wp2_with fail
  go_loopw [10] (fun iv wr => ∃ i : Nat, iv = .int .i64 i ∧ i ≤ n ∧ Hid (OrdS w pb (.slice none 0 0) [] (fnQ i (fun _ => 0)) wr)) (fun iv _ => n - (intOf iv).toNat)
  case atStart => exact ⟨0, rfl, Nat.zero_le _, HS0⟩
  case round =>
    obtain ⟨i, rfl, hi, HS⟩ := hrel
    rename World => wr
    by_cases hlt : i < n
    · have hli : (i : Int) < (n : Int) := by omega
      have s1 : IntKind.i64.wrap ((i : Int) + 1) = (i : Int) + 1 := i64_id _ (by omega) (by omega)
      have s2 : IntKind.u64.wrap ((i : Int) + 1) = ((i + 1 : Nat) : Int) := by rw [IntKind.wrap_u64]; omega
      have HPU := Lib.hid (HS.out.d.put (by show (fnL i _).length ≤ _; rw [fnL_len]; omega) (i + 1) (by omega))
      rw [fn_put (by omega) rfl] at HPU
      go_wp2_with fail
      refine HPU.out.mono ?_
      rintro e w2 ⟨rfl, hd2, hk2⟩
      have HS2 := Lib.hid (HS.out.keep hd2 hk2)
      clear HPU HS hd2 hk2
      go_wp2_with fail
      go_roundw
      case rel => exact ⟨i + 1, by go_num, by omega, HS2⟩
      case measure => simp [intOf]; omega
    · have hli : ¬ (i : Int) < (n : Int) := by omega
      obtain rfl : i = n := by omega
      have HS1 : Hid (OrdS w pb (.slice none 0 0) [] (fnQ i (fun k => if k < 0 then 5 else 0)) wr) := HS
      clear HS HS0
      go_wp2_with fail
      go_loopw [11] (fun jv wz => ∃ j : Nat, jv = .int .i64 j ∧ j ≤ K ∧ Hid (OrdS w pb (.slice none 0 0) [] (fnQ i (fun k => if k < j then 5 else 0)) wz)) (fun jv _ => K - (intOf jv).toNat)
      case atStart => exact ⟨0, rfl, Nat.zero_le _, HS1⟩
      case round =>
        obtain ⟨j, rfl, hj, HS⟩ := hrel
        rename World => wz
        by_cases hjl : j < K
        · have hji : (j : Int) < (K : Int) := by omega
          have HNX := Lib.hid (HS.out.d.next (by show (fnL i _).length ≤ _; rw [fnL_len]; omega) 5 (by omega))
          rw [fn_next (i := j) (by omega) (by omega) (by simp) (fun k hk => by simp [hk]), show fnQ i (fun k => if k = j then 5 else if k < j then 5 else 0) = fnQ i (fun k => if k < j + 1 then 5 else 0) from fnQ_congr fun k _ => by
            by_cases h1 : k = j
            · simp [h1]
            · by_cases h2 : k < j
              · simp [h1, h2, show k < j + 1 by omega]
              · simp [h1, h2, show ¬ k < j + 1 by omega]] at HNX
          go_wp2_with fail
          refine HNX.out.mono ?_
          rintro e w2 ⟨rfl, hd2, hk2⟩
          have HS2 := Lib.hid (HS.out.keep hd2 hk2)
          clear HNX HS hd2 hk2
          go_wp2_with fail
          go_roundw
          case rel => exact ⟨j + 1, by go_num, by omega, HS2⟩
          case measure => simp [intOf]; omega
        · have hji : ¬ (j : Int) < (K : Int) := by omega
          obtain rfl : j = K := by omega
          rw [o3_start W] at HS
          clear HS1
          have HS2 := HS
          clear HS
          have HWB := Lib.hid (show (∀ k, j ≤ k → W k = true) ∧ (∀ k, k < j → W k = bs.getD k false) from ⟨fun k hk => by rw [hW]; simp [hk], fun k hk => by rw [hW]; simp [show ¬ j ≤ k by omega]⟩)
          clear hW
          have HS3 : Hid (OrdS w pb (.slice none 0 0) (backL W 0) (fnQ i (o3 W j 0)) wz) := HS2
          clear HS2
          go_wp2_with fail
          go_loopw [12, 13] (fun lv tv wy => ∃ (t : Nat) (A2 : Option Addr) (c2 : Nat), tv = .int .i64 t ∧ lv = .slice A2 (backL W t).length c2 ∧ t ≤ j ∧ Hid (OrdS w pb (.slice A2 (backL W t).length c2) (backL W t) (fnQ i (o3 W j t)) wy)) (fun _ tv _ => j - (intOf tv).toNat)
          case atStart => exact ⟨0, none, 0, rfl, rfl, Nat.zero_le _, HS3⟩
          case round =>
            clear HS3
            obtain ⟨t, A2, c2, rfl, rfl, ht, HS⟩ := hrel
            rename World => wy
            have hbl := backL_len W t
            by_cases htl : t < j
            · have hti : (t : Int) < (j : Int) := by omega
              have s1 : IntKind.i64.wrap ((t : Int) + 1) = (t : Int) + 1 := i64_id _ (by omega) (by omega)
              have s2 : IntKind.u64.wrap ((t : Int) + 1) = ((t + 1 : Nat) : Int) := by rw [IntKind.wrap_u64]; omega
              cases hw : W t with
              | true =>
                have htb : t < bs.length := by
                  rcases Nat.lt_or_ge t bs.length with h | h
                  · exact h
                  · have := HWB.out.2 t htl; rw [hw, List.getD_eq_getElem?_getD, List.getElem?_eq_none h] at this; cases this
                have htbi : (t : Int) < (bs.length : Int) := by omega
                obtain ⟨o, rfl, hc⟩ := HC1.out _ htb
                have hbt : bs[t] = true := by
                  have := HWB.out.2 t htl
                  rw [hw, List.getD_eq_getElem?_getD, List.getElem?_eq_getElem htb] at this
                  exact this.symm
                have k1 := hc wy HS.out.d.bel
                rw [hbt] at k1
                have HFR := Lib.hid (HS.out.d.free (by show (fnL i _).length ≤ _; rw [fnL_len]; omega) (t + 1) 5 (by omega) (by omega))
                rw [fn_free (by omega) (by omega) (o3_at htl) HS.out.d.ok, o3_yes hw htl] at HFR
                have HBY := Lib.hid (backL_yes hw)
                clear hc hbt
                go_wp2_with fail
                refine HFR.out.mono ?_
                rintro e w2 ⟨rfl, hd2, hk2⟩
                have HS2 := Lib.hid (HS.out.keep hd2 hk2)
                clear HFR HS hd2 hk2 k1
                obtain ⟨z, hz⟩ : ∃ z, z = t + 1 := ⟨_, rfl⟩
                rw [← hz] at s2 HBY HS2
                have HZ := Lib.hid hz
                clear hz
                have hm : ShowsG (natC .u64) (w2.alloc (Obj.cells #[.int .u64 z] 22)) w2.heap.size (.slice (some ⟨w2.heap.size, 0, none⟩) 1 1) [z] := ShowsG.lit (C := natC .u64) [z] (by simp [Code.all, natC]) (by simp [maxLen])
                have ho2 := HS2.out.o.alloc_ (Obj.cells #[.int .u64 z] 22)
                have hb2 : w.heap.size ≤ (w2.alloc (Obj.cells #[.int .u64 z] 22)).heap.size := by have := HS2.out.d.bel.size; simp; omega
                go_wp2_with (at_builtin
                             refine wpList_appendW (natC .u64) _ rfl (.tmp 68) (.tmp 72) 42 rfl w.heap.size 22 _ 8 Try.underlying42 infoU64 rfl _ (backL W t) rfl ho2 w2.heap.size _ [z] rfl hm (by simp) (by simp; omega) (by simp; omega) hb2 ?_
                             intro v3 w3 ho3 hg3 hv3)
                have HS3 := Lib.hid (HS2.out.push hg3 hv3 ho3)
                rw [← HBY.out] at HS3
                obtain ⟨A3, c3, hf3, _, _⟩ := ho3.form
                rw [← HBY.out] at hf3
                clear ho3 hg3 hv3 ho2 hm hb2
                have HF3 := Lib.hid hf3
                go_roundw
                case rel => exact ⟨z, A3, c3, by rw [HZ.out]; go_num, HF3.out, by have := HZ.out; omega, by rw [← HF3.out]; exact HS3⟩
                case measure => have := HZ.out; simp [intOf]; omega
              | false =>
                have HS4 := HS
                rw [← o3_no hw, ← backL_no hw] at HS4
                have hbn := backL_no hw
                by_cases htb : t < bs.length
                · have htbi : (t : Int) < (bs.length : Int) := by omega
                  obtain ⟨o, rfl, hc⟩ := HC1.out _ htb
                  have hbt : bs[t] = false := by
                    have := HWB.out.2 t htl
                    rw [hw, List.getD_eq_getElem?_getD, List.getElem?_eq_getElem htb] at this
                    exact this.symm
                  have k1 := hc wy HS.out.d.bel
                  rw [hbt] at k1
                  clear hc hbt HS
                  go_wp2_with fail
                  go_roundw
                  case rel => exact ⟨t + 1, A2, c2, by go_num, by rw [hbn], by omega, HS4⟩
                  case measure => simp [intOf]; omega
                · have htbi : ¬ (t : Int) < (bs.length : Int) := by omega
                  clear HS
                  go_wp2_with fail
                  go_roundw
                  case rel => exact ⟨t + 1, A2, c2, by go_num, by rw [hbn], by omega, HS4⟩
                  case measure => simp [intOf]; omega
            · have hti : ¬ (t : Int) < (j : Int) := by omega
              obtain rfl : t = j := by omega
              clear HC1 hlt hli hjl hji htl
              have HOB := Lib.hid (o3_back (n := i) HWB.out.1)
              go_wp2_with fail
              go_loopw [12, 14] (fun lv tv wx => ∃ (u : Nat) (A3 : Option Addr) (c3 : Nat), tv = .int .i64 u ∧ lv = .slice A3 (backL W u).length c3 ∧ t ≤ u ∧ u ≤ i ∧ Hid (OrdS w pb (.slice A3 (backL W u).length c3) (backL W u) (fnQ i (o3 W t t)) wx)) (fun _ tv _ => i - (intOf tv).toNat)
              case atStart => exact ⟨t, A2, c2, rfl, rfl, Nat.le_refl _, hKn, HS⟩
              case round =>
                clear HS
                obtain ⟨u, A3, c3, rfl, rfl, htu, hui, HS⟩ := hrel
                rename World => wx
                have hbl := backL_len W u
                by_cases hul : u < i
                · have huli : (u : Int) < (i : Int) := by omega
                  have s1 : IntKind.i64.wrap ((u : Int) + 1) = (u : Int) + 1 := i64_id _ (by omega) (by omega)
                  have s2 : IntKind.u64.wrap ((u : Int) + 1) = ((u + 1 : Nat) : Int) := by rw [IntKind.wrap_u64]; omega
                  have HBY := Lib.hid (backL_yes (HWB.out.1 u htu))
                  obtain ⟨z, hz⟩ : ∃ z, z = u + 1 := ⟨_, rfl⟩
                  rw [← hz] at s2 HBY
                  have HZ := Lib.hid hz
                  clear hz
                  have hm : ShowsG (natC .u64) (wx.alloc (Obj.cells #[.int .u64 z] 22)) wx.heap.size (.slice (some ⟨wx.heap.size, 0, none⟩) 1 1) [z] := ShowsG.lit (C := natC .u64) [z] (by simp [Code.all, natC]) (by simp [maxLen])
                  have ho2 := HS.out.o.alloc_ (Obj.cells #[.int .u64 z] 22)
                  have hb2 : w.heap.size ≤ (wx.alloc (Obj.cells #[.int .u64 z] 22)).heap.size := by have := HS.out.d.bel.size; simp; omega
                  go_wp2_with (at_builtin
                               refine wpList_appendW (natC .u64) _ rfl (.tmp 80) (.tmp 84) 42 rfl w.heap.size 22 _ 8 Try.underlying42 infoU64 rfl _ (backL W u) rfl ho2 wx.heap.size _ [z] rfl hm (by simp) (by simp; omega) (by simp; omega) hb2 ?_
                               intro v3 w3 ho3 hg3 hv3)
                  have HS3 := Lib.hid (HS.out.push hg3 hv3 ho3)
                  rw [← HBY.out] at HS3
                  obtain ⟨A4, c4, hf3, _, _⟩ := ho3.form
                  rw [← HBY.out] at hf3
                  clear ho3 hg3 hv3 ho2 hm hb2
                  have HF3 := Lib.hid hf3
                  go_roundw
                  case rel => exact ⟨z, A4, c4, by rw [HZ.out]; go_num, HF3.out, by have := HZ.out; omega, by have := HZ.out; omega, by rw [← HF3.out]; exact HS3⟩
                  case measure => have := HZ.out; simp [intOf]; omega
                · have huli : ¬ (u : Int) < (i : Int) := by omega
                  obtain rfl : u = i := by omega
                  clear HWB
                  have hln : (backL W u).length = (backP W u).length := by unfold backL; rw [List.length_map]
                  have hat := fun k (h1 : k < (backL W u).length) (h2 : k < (backP W u).length) => backL_at h1 h2
                  have HAT := Lib.hid hat
                  have HLN := Lib.hid hln
                  clear hat hln
                  go_wp2_with fail
                  go_loopw [15] (fun yv wv => ∃ (y : Nat) (o : Nat → Nat), yv = .int .i64 y ∧ y ≤ (backL W u).length ∧ Hid (BackQ W u y o) ∧ Hid (OrdS w pb (.slice A3 (backL W u).length c3) (backL W u) (fnQ u o) wv)) (fun yv _ => (backL W u).length - (intOf yv).toNat)
                  case atStart => exact ⟨0, _, rfl, Nat.zero_le _, HOB, HS⟩
                  case round =>
                    clear HS HOB
                    obtain ⟨y, o, rfl, hy, HB, HS⟩ := hrel
                    rename World => wv
                    by_cases hyl : y < (backL W u).length
                    · have hyli : (y : Int) < ((backL W u).length : Int) := by omega
                      have hyp : y < (backP W u).length := by have := HLN.out; omega
                      obtain ⟨hnx, hB2⟩ := HB.out.step hyp
                      have HNX := Lib.hid (HS.out.d.next (by show (fnL u _).length ≤ _; rw [fnL_len]; omega) 6 (by omega))
                      rw [hnx, ← HAT.out y hyl hyp] at HNX
                      have HB2 := Lib.hid hB2
                      generalize (fun k => if k = (backP W u)[y] then 6 else o k) = o2 at *
                      clear hnx hB2
                      obtain ⟨x, hx⟩ : ∃ x, x = (backL W u)[y] := ⟨_, rfl⟩
                      rw [← hx] at HNX
                      have HX := Lib.hid hx
                      clear hx
                      go_wp2_with fail
                      refine HNX.out.mono ?_
                      rintro e w2 ⟨rfl, hd2, hk2⟩
                      have HS2 := Lib.hid (HS.out.keep hd2 hk2)
                      clear HNX HS hd2 hk2
                      obtain ⟨b, rfl, hbb, hbz, hfz, hcl⟩ := HS2.out.o.at_ (by omega)
                      have k1 : w2.cell? ⟨b, y, none⟩ = some (.int .u64 x) := by
                        have := hcl y hyl 0 (by decide)
                        simp only [natC, Nat.mul_one, Nat.add_zero] at this
                        rw [HX.out]
                        exact this
                      clear hcl hbb hbz hfz
                      go_wp2_with fail
                      go_roundw
                      case rel => exact ⟨y + 1, o2, by go_num, by omega, HB2, HS2⟩
                      case measure => simp [intOf]; omega
                    · have hyli : ¬ (y : Int) < ((backL W u).length : Int) := by omega
                      obtain rfl : y = (backP W u).length := by have := HLN.out; omega
                      obtain ⟨hnx, hof⟩ := HB.out.done
                      have HU := Lib.hid (show (fnQ u o).l.length ≤ 1000000 by show (fnL u _).length ≤ _; rw [fnL_len]; omega)
                      have HNX := Lib.hid (HS.out.d.next HU.out 6 (by omega))
                      rw [hnx] at HNX
                      have HOFE := Lib.hid (show ofP 6 (fnQ u o).l = backL W u from (if_neg (by omega)).trans hof)
                      clear hnx hof HB HAT HLN hy
                      go_wp2_with fail
                      refine HNX.out.mono ?_
                      rintro e w2 ⟨rfl, hd2, hk2⟩
                      have HS2 := Lib.hid (HS.out.keep hd2 hk2)
                      have HAL := Lib.hid (hd2.all HU.out)
                      unfold NumsQ at HAL
                      clear hd2 hk2 HS HNX
                      go_wp2_with fail
                      refine HAL.out.mono ?_
                      rintro e w3 ⟨v1, rfl, ho1, hb3⟩
                      obtain ⟨A5, c5, hf5, _, _⟩ := ho1.form
                      rw [show (allQ (fnQ u o).l).length = u from fn_all u o] at hf5
                      subst hf5
                      have hd3 := HS2.out.d.step hb3
                      have HS3 := Lib.hid (HS2.out.keep hd3.1 hd3.2)
                      have HOF := Lib.hid (hd3.1.of HU.out 6 (by omega))
                      rw [HOFE.out] at HOF
                      unfold NumsQ at HOF
                      clear hd3 hb3 ho1 HS2 HAL
                      go_wp2_with fail
                      refine HOF.out.mono ?_
                      rintro e w4 ⟨v2, rfl, ho4, hb4⟩
                      obtain ⟨A6, c6, rfl, _, _⟩ := ho4.form
                      have hd4 := HS3.out.d.step hb4
                      have HS4 := Lib.hid (HS3.out.keep hd4.1 hd4.2)
                      obtain ⟨d1, _, hs1⟩ := ho4.shows
                      obtain ⟨d2, _, hs2⟩ := HS4.out.o.shows
                      have HSM := Lib.hid (qsameN_any A6 A3 c6 c3 d1 d2 (backL W u) (backL W u) w4 hs1 hs2 (by omega) (by omega))
                      rw [decide_eq_true rfl] at HSM
                      clear hs1 hs2 hd4 hb4 ho4 HS3 HOF
                      go_wp2_with fail
                      refine HSM.out.mono ?_
                      rintro e w5 ⟨rfl, hb5⟩
                      have HH5 := Lib.hid (HH.out w5 (HS4.out.d.step hb5).1.bel)
                      clear HS4 HSM hb5
                      go_wp2_with fail
                      refine HH5.out.mono ?_
                      rintro e w6 ⟨rfl, hb6⟩
                      go_wp2_with fail
                      go_ret
                      exact ⟨rfl, hb6⟩

set_option maxRecDepth 100000 in
set_option maxHeartbeats 1000000 in
theorem qback_walk_lifted (os : Os) (started : os.Started) (H : Type) (enc : TypeId × Value → H) :
    ReturnsInHanded {} Try.checked os 5 .any (Rows.queueBackSpec.pre6 enc Try.prog Try.f5 Rows.queueBackRow.domain false) (Rows.queueBackSpec.post enc Try.prog Try.f5 false true false false) := by
  refine returnsInHanded_of_change_sized (C := Try.checked) own started (by kernel_rfl) Try.func5
    (ChangeSpec.witness6 (enc := enc) (C := Try.checked) false ⟨#[], #[.int .u8 0, .int .u8 0, .slice none 0 0], []⟩ 8 (by kernel_rfl) (by kernel_rfl) (by kernel_rfl) (by kernel_rfl)) ?_
  intro W base args ds gs before hval0 hW hcnd hsz0 _
  have hval : ∀ (j : Nat) t v, Try.f5.params[j]? = some t → args[j]? = some v → Value.okWide Try.prog W .any base t v := hval0
  have hsz : (DataW.weightsEach Try.prog (Try.f5.params.toList ++ Rows.queueBackSpec.plain.varTypes Try.prog) (ds ++ gs)).all (· ≤ reachBytes) = true := hsz0
  have hW' := hW
  obtain ⟨p, q, hA0, hV, rfl, hfz, hnd⟩ := hW
  have hA : DataW.TrodAll enc Try.prog W 0 (fun _ => true) true Try.f5.params.toList args.toList ds p := hA0
  rw [Try.params5] at hA hval hsz
  obtain ⟨v0, vs0, d0, ds0, p0, q0, hargs, rfl, rfl, h0, r0⟩ := trodAll_cons hA
  obtain ⟨v1, vs1, d1, ds1, p1, q1, rfl, rfl, rfl, h1, r1⟩ := trodAll_cons r0
  obtain ⟨v2, vs2, d2, ds2, p2, q2, rfl, rfl, rfl, h2, r2⟩ := trodAll_cons r1
  obtain ⟨rfl, rfl, rfl⟩ := trodAll_nil r2
  obtain rfl : args = #[v0, v1, v2] := by cases args; simp_all
  obtain ⟨rfl, rfl⟩ := trodVars_none hV
  have k0 := h0
  have lt0 : ∀ x ∈ p0, x.block < W.heap.size := by obtain ⟨m, hm⟩ := k0; exact DataW.trod_lt m _ _ _ hm
  have k1 := h1
  have lt1 : ∀ x ∈ p1, x.block < W.heap.size := by obtain ⟨m, hm⟩ := k1; exact DataW.trod_lt m _ _ _ hm
  have k2 := h2
  have lt2 : ∀ x ∈ p2, x.block < W.heap.size := by obtain ⟨m, hm⟩ := k2; exact DataW.trod_lt m _ _ _ hm
  obtain ⟨s0, rfl, rfl, rfl, ws0⟩ := open_int Try.underlying5 (hval 0 5 v0 rfl rfl) h0
  obtain ⟨s00, s01⟩ := u8_range ws0
  obtain ⟨S0, rfl⟩ := Int.eq_ofNat_of_zero_le s00
  obtain ⟨s1, rfl, rfl, rfl, ws1⟩ := open_int Try.underlying5 (hval 1 5 v1 rfl rfl) h1
  obtain ⟨s10, s11⟩ := u8_range ws1
  obtain ⟨S1, rfl⟩ := Int.eq_ofNat_of_zero_le s10
  obtain ⟨A2, c2, b2, L2, rfl, sh2, l2⟩ := open_flags (hval 2 49 v2 rfl rfl) h2 hsz 2 rfl rfl
  clear hA0 hval0
  refine (qback_walk S0 S1 A2 c2 b2 L2 W (by omega) (by omega) sh2 l2).mono fun e W' ⟨he, bel⟩ => ?_
  subst he
  exact ⟨_, rfl, _, _, _, [], _, [], hW', trodAll_mk1 (shut_bool Try.underlying4 _), (trodAll_cons_mk (Below.trod laidOut (by kernel_rfl) (of_decide_eq_true (by kernel_rfl)) k0 bel lt0) (trodAll_cons_mk (Below.trod laidOut (by kernel_rfl) (of_decide_eq_true (by kernel_rfl)) k1 bel lt1) (trodAll_cons_mk (Below.trod laidOut (by kernel_rfl) (of_decide_eq_true (by kernel_rfl)) k2 bel lt2) trodAll_mk0))), rfl, bel.frame _, fun h => by cases h⟩

theorem queueBack_holds : Rows.QueueBackSaid :=
  OpenClaim.holds_of_wide 5 Try.f5 rfl rfl rfl rfl rfl rfl rfl ⟨rfl, rfl, rfl, rfl, rfl⟩ rfl rfl rfl rfl rfl (by kernel_rfl) Try.func5 (by kernel_rfl)
    (of_decide_eq_true (by kernel_rfl)) (by unfold Func.isWrapper; first | (rw [if_pos (by decide +kernel)]; kernel_rfl) | (rw [if_neg (by decide +kernel)]; exact ⟨rfl, rfl⟩))
    (fun os started H enc _ => qback_walk_lifted os started H enc)
#print axioms queueBack_holds
end Go.Proofs.Ytkcbkimconaegaa
