/-
  The contracts of the methods of sides, and of combined.
  Conditions: the numbers are of 32 bits; at most 2^36 spans; canonical lists.
-/
import Derived.Test.YtpchjgeehejkeaaSpB
namespace Go.Proofs.Ytpchjgeehejkeaa
open Go.RowKit
set_option linter.unusedVariables false
set_option linter.unusedSimpArgs false

/-- A function value that keeps the numbers of mode. -/
def Keeps (mode g : Nat) : Prop := ∀ (x y : Bool) (w : World), Calls Try.prog g #[.agg #[.bool x, .bool y]] w fun e w' => e = .returned (.bool (opB mode x y)) ∧ Below w.heap.size w w'

theorem keeps_both : Keeps 0 36 := fun x y w => by
  go_enter Try.func36, Try.ntmps36
  cases x <;> cases y
  all_goals
    go_wp2_with fail
    go_ret
    exact ⟨by first | rfl | simp [opB], (Below.refl _ _).alloc (Nat.le_refl _) _⟩
theorem keeps_either : Keeps 1 32 := fun x y w => by
  go_enter Try.func32, Try.ntmps32
  cases x <;> cases y
  all_goals
    go_wp2_with fail
    go_ret
    exact ⟨by first | rfl | simp [opB], (Below.refl _ _).alloc (Nat.le_refl _) _⟩
theorem keeps_first : Keeps 2 34 := fun x y w => by
  go_enter Try.func34, Try.ntmps34
  cases x <;> cases y
  all_goals
    go_wp2_with fail
    go_ret
    exact ⟨by first | rfl | simp [opB], (Below.refl _ _).alloc (Nat.le_refl _) _⟩

theorem par0 (i : Nat) : (((i : Int) % 2) == 1) = decide (i % 2 = 1) := by
  rw [Bool.eq_iff_iff]; simp; omega
theorem par1 (i : Nat) : ((((i : Int) + 1) % 2) == 1) = decide ((i + 1) % 2 = 1) := by
  rw [Bool.eq_iff_iff]; simp; omega
theorem keeps_at {mode g : Nat} (h : Keeps mode g) (p q : Nat) {x y : Bool} {w : World} (hx : x = decide (p % 2 = 1)) (hy : y = decide (q % 2 = 1)) :
    Calls Try.prog g #[.agg #[.bool x, .bool y]] w fun e w' => e = .returned (.bool (kb mode p q)) ∧ Below w.heap.size w w' := by
  subst hx
  subst hy
  exact h _ _ w
/-- What a round makes, by whether the next numbers are kept. -/
def Stepped (mode : Nat) (a b : List Sp) (i j i' j' at_ frm : Nat) (kept : Bool) (out : List Sp) (kp : Bool) : Prop :=
  Swp mode a b i' j' at_ (if (kp && !kept) = true then at_ else frm) kp (if (kept && !kp) = true then out ++ [(frm, at_ - 1)] else out)
theorem stepped {mode : Nat} {a b : List Sp} {i j prev frm : Nat} {kept : Bool} {out : List Sp} (h : Swp mode a b i j prev frm kept out) (hca : canon a) (hcb : canon b) (hua : u32s a) (hub : u32s b)
    (hg : i < 2 * a.length ∨ j < 2 * b.length) {at_ i' j' : Nat} (hat : at_ = min (edgeN a i) (edgeN b j)) (hi : i' = if edgeN a i = at_ then i + 1 else i) (hj : j' = if edgeN b j = at_ then j + 1 else j) :
    Stepped mode a b i j i' j' at_ frm kept out (kb mode i' j') ∧ at_ ≤ 4294967296 ∧ (kept = true → 1 ≤ at_ ∧ frm < 4294967296) ∧ i + j < i' + j' ∧ i' ≤ 2 * a.length ∧ j' ≤ 2 * b.length := by
  obtain ⟨h1, h2, h3, h4⟩ := Swp_step h hca hcb hua hub hg hat hi hj rfl rfl
  exact ⟨h1, h2, fun hk => ⟨h3 hk, (h.2.2.2.2.1 hk).2.1⟩, h4, h1.1.1, h1.1.2.1⟩

set_option maxRecDepth 100000 in
set_option maxHeartbeats 1600000 in
theorem combined_any (A1 A2 : Option Addr) (c1 c2 n1 n2 d1 d2 mode g : Nat) (a b : List Sp) (w : World) (hn1 : a.length = n1) (hn2 : b.length = n2) (h1 : ShowsG spanC w d1 (.slice A1 n1 c1) a) (h2 : ShowsG spanC w d2 (.slice A2 n2 c2) b) (hu1 : u32s a) (hu2 : u32s b)
    (hb1 : n1 ≤ 68719476736) (hb2 : n2 ≤ 68719476736) (hc1 : canon a) (hc2 : canon b) (hk : Keeps mode g) (eg : ∀ args w, (callFunc g args).run Try.prog w = .ok (.enter g args) w) :
    Calls Try.prog 47 #[.slice A1 n1 c1, .slice A2 n2 c2, .func (.func g) #[] #[]] w fun e w' => ∃ v r, e = .returned v ∧ OwnG spanC 37 w' w.heap.size v r ∧ canon r ∧ (∀ n, memS r n ↔ opM mode a b n) ∧ u32s r ∧ r.length ≤ 2 * (n1 + n2) ∧ Below w.heap.size w w' := by
  have HK := Lib.hid hk
  have HC := Lib.hid (And.intro hc1 hc2)
  have HN := Lib.hid (And.intro hn1 hn2)
  have HS := Lib.hid (And.intro h1 h2)
  have HU := Lib.hid (And.intro hu1 hu2)
  clear hk hc1 hc2 hn1 hn2 h1 h2 hu1 hu2
  go_enter Try.func47, Try.ntmps47
  go_wp2_with fail
  go_loopw [7, 8, 9, 10, 11] (fun s7 s8 s9 s10 s11 wr => ∃ (i j prev frm : Nat) (kept : Bool) (out : List Sp), s8 = .int .u64 frm ∧ s9 = .bool kept ∧ s10 = .int .i64 i ∧ s11 = .int .i64 j ∧ i ≤ 2 * n1 ∧ j ≤ 2 * n2 ∧ Hid (Swp mode a b i j prev frm kept out) ∧ OwnG spanC 37 wr w.heap.size s7 out ∧ Below w.heap.size w wr) (fun _ _ _ i j _ => 2 * n1 + 2 * n2 - ((intOf i).toNat + (intOf j).toNat))
  case atStart => exact ⟨0, 0, 0, 0, false, [], rfl, rfl, rfl, rfl, Nat.zero_le _, Nat.zero_le _, Lib.hid (Swp_zero mode a b), OwnG.nil_ _ _ _ _, Below.refl _ _⟩
  case round =>
    rename World => wr
    obtain ⟨i, j, prev, frm, kept, out, rfl, rfl, rfl, rfl, hi, hj, I, ho, hbw⟩ := hrel
    have hE1 := Lib.hid (edge_any A1 c1 n1 d1 i a wr HN.out.1 (HS.out.1.below' hbw (Nat.le_refl _)) HU.out.1 (by omega) hi)
    have hE2 := Lib.hid (fun w' (hb' : Below wr.heap.size wr w') => edge_any A2 c2 n2 d2 j b w' HN.out.2 ((HS.out.2.below' hbw (Nat.le_refl _)).below' hb' (Nat.le_refl _)) HU.out.2 (by omega) hj)
    by_cases hg : i < 2 * n1 ∨ j < 2 * n2
    · obtain ⟨q1, q2, hq1, hq2, hqq⟩ : ∃ q1 q2 : Bool, decide ((i : Int) < 2 * (n1 : Int)) = q1 ∧ decide ((j : Int) < 2 * (n2 : Int)) = q2 ∧ (q1 || q2) = true := ⟨_, _, rfl, rfl, by simp; omega⟩
      generalize hea : edgeN a i = ea at hE1
      generalize heb : edgeN b j = eb at hE2
      have HEA := Lib.hid hea
      have HEB := Lib.hid heb
      clear hea heb
      have HI := fun at_ i' j' (hat : at_ = min (edgeN a i) (edgeN b j)) (hi : i' = if edgeN a i = at_ then i + 1 else i) (hj : j' = if edgeN b j = at_ then j + 1 else j) => stepped I.out HC.out.1 HC.out.2 HU.out.1 HU.out.2 (by rw [HN.out.1, HN.out.2]; exact hg) hat hi hj
      rw [HEA.out, HEB.out] at HI
      have HI2 := Lib.hid HI
      have hend : 2 * a.length ≤ i → ea = 1099511627776 := fun h => by rw [← HEA.out]; exact edgeN_end h
      have hebl : eb ≤ 1099511627776 := by rw [← HEB.out]; exact edgeN_le' HU.out.2 j
      rw [HN.out.1] at hend
      have HE := Lib.hid hend
      clear HI hend
      have hlen : out.length ≤ i + j := I.out.2.2.2.1.2.2.2
      rcases Nat.lt_trichotomy ea eb with hlt | hlt | hlt
      · cases q1
        · simp at hq1
          exact absurd (HE.out (by omega)) (by omega)
        · clear hq2
          have hx1 : ¬ eb < ea := by omega
          have hx2 : ((eb : Int) == (ea : Int)) = false := by simp; omega
          obtain ⟨hst, hat, hfr, hij, hi1, hj1⟩ := HI2.out ea (i + 1) j (by omega) (by rw [if_pos rfl]) (by rw [if_neg (by omega)])
          have HST := Lib.hid hst
          rw [HN.out.1] at hi1
          rw [HN.out.2] at hj1
          clear hst hebl
          go_wp2_with fail
          refine hE1.out.mono ?_
          rintro e w1 ⟨rfl, hb1'⟩
          go_wp2_with fail
          refine (hE2.out w1 hb1').mono ?_
          rintro e w2 ⟨rfl, hb2'⟩
          go_wp2_with fail
          refine (keeps_at HK.out (i + 1) j (by exact par1 i) (by exact par0 j)).mono ?_
          rintro e w3 ⟨rfl, hb3'⟩
          have hbr : Below wr.heap.size wr w3 := (hb1'.trans (hb2'.mono hb1'.size)).trans (hb3'.mono (by have := hb1'.size; have := hb2'.size; omega))
          have ho3 := ho.below hbr (Nat.le_refl _)
          have hbw3 : Below w.heap.size w w3 := hbw.trans (hbr.mono hbw.size)
          clear hb1' hb2' hb3' ho hE1 hE2
          generalize kb mode (i + 1) j = kp at HST ⊢
          cases kept <;> cases kp
          case true.false =>
            obtain ⟨hA1, hA2⟩ := hfr rfl
            have HA := Lib.hid (show ((ea - 1 : Nat) : Int) = (ea : Int) - 1 by omega)
            have y1 : ((ea : Int) - 1) % 18446744073709551616 = (ea : Int) - 1 := by omega
            have y2 : ((ea : Int) - 1) % 4294967296 = (ea : Int) - 1 := by omega
            have y3 : (frm : Int) % 4294967296 = (frm : Int) := by omega
            clear hfr
            go_wp2_with (at_builtin
                         refine wpList_appendG spanC _ rfl (.tmp 67) (.tmp 74) 22 rfl w.heap.size 37 (.agg #[.int .u32 0, .int .u32 0]) 8 Try.underlying22 infoSpan rfl _ out rfl (ho3.alloc_ _) w3.heap.size _ [(frm, ea - 1)] rfl (ShowsG.lit (C := spanC) [(frm, ea - 1)] (by simp [Code.all, pairC, HA.out]) (by simp [maxLen])) (by simp; omega) (by simp; omega) (by have := hbw3.size; simp; omega) ?_
                         intro v4 w4 ho4 hg4)
            go_roundw
            case rel => exact ⟨(i + 1), j, ea, frm, false, out ++ [(frm, ea - 1)], rfl, rfl, by go_num, by go_num, hi1, hj1, HST.out, ho4, (hbw3.alloc hbw3.size _).grown hg4 (by have := hbw3.size; simp; omega) (fun q hq => (ho3.block q hq).1)⟩
            case measure => simp [intOf]; omega
          case false.false =>
            go_wp2_with fail
            go_roundw
            case rel => exact ⟨(i + 1), j, ea, frm, false, out, rfl, rfl, by go_num, by go_num, hi1, hj1, HST.out, ho3, hbw3⟩
            case measure => simp [intOf]; omega
          case false.true =>
            go_wp2_with fail
            go_roundw
            case rel => exact ⟨(i + 1), j, ea, ea, true, out, rfl, rfl, by go_num, by go_num, hi1, hj1, HST.out, ho3, hbw3⟩
            case measure => simp [intOf]; omega
          case true.true =>
            go_wp2_with fail
            go_roundw
            case rel => exact ⟨(i + 1), j, ea, frm, true, out, rfl, rfl, by go_num, by go_num, hi1, hj1, HST.out, ho3, hbw3⟩
            case measure => simp [intOf]; omega
      · subst hlt
        cases q1
        · simp at hq1
          simp at hqq
          subst hqq
          simp at hq2
          have h3 := HE.out (by omega)
          have h4 := edgeN_le HU.out.2 (i := j) (by rw [HN.out.2]; omega)
          rw [HEB.out] at h4
          omega
        · clear hq2
          obtain ⟨hst, hat, hfr, hij, hi1, hj1⟩ := HI2.out ea (i + 1) (j + 1) (by omega) (by rw [if_pos rfl]) (by rw [if_pos rfl])
          have HST := Lib.hid hst
          rw [HN.out.1] at hi1
          rw [HN.out.2] at hj1
          clear hst hebl
          go_wp2_with fail
          refine hE1.out.mono ?_
          rintro e w1 ⟨rfl, hb1'⟩
          go_wp2_with fail
          refine (hE2.out w1 hb1').mono ?_
          rintro e w2 ⟨rfl, hb2'⟩
          go_wp2_with fail
          refine (keeps_at HK.out (i + 1) (j + 1) (by exact par1 i) (by exact par1 j)).mono ?_
          rintro e w3 ⟨rfl, hb3'⟩
          have hbr : Below wr.heap.size wr w3 := (hb1'.trans (hb2'.mono hb1'.size)).trans (hb3'.mono (by have := hb1'.size; have := hb2'.size; omega))
          have ho3 := ho.below hbr (Nat.le_refl _)
          have hbw3 : Below w.heap.size w w3 := hbw.trans (hbr.mono hbw.size)
          clear hb1' hb2' hb3' ho hE1 hE2
          generalize kb mode (i + 1) (j + 1) = kp at HST ⊢
          cases kept <;> cases kp
          case true.false =>
            obtain ⟨hA1, hA2⟩ := hfr rfl
            have HA := Lib.hid (show ((ea - 1 : Nat) : Int) = (ea : Int) - 1 by omega)
            have y1 : ((ea : Int) - 1) % 18446744073709551616 = (ea : Int) - 1 := by omega
            have y2 : ((ea : Int) - 1) % 4294967296 = (ea : Int) - 1 := by omega
            have y3 : (frm : Int) % 4294967296 = (frm : Int) := by omega
            clear hfr
            go_wp2_with (at_builtin
                         refine wpList_appendG spanC _ rfl (.tmp 67) (.tmp 74) 22 rfl w.heap.size 37 (.agg #[.int .u32 0, .int .u32 0]) 8 Try.underlying22 infoSpan rfl _ out rfl (ho3.alloc_ _) w3.heap.size _ [(frm, ea - 1)] rfl (ShowsG.lit (C := spanC) [(frm, ea - 1)] (by simp [Code.all, pairC, HA.out]) (by simp [maxLen])) (by simp; omega) (by simp; omega) (by have := hbw3.size; simp; omega) ?_
                         intro v4 w4 ho4 hg4)
            go_roundw
            case rel => exact ⟨(i + 1), (j + 1), ea, frm, false, out ++ [(frm, ea - 1)], rfl, rfl, by go_num, by go_num, hi1, hj1, HST.out, ho4, (hbw3.alloc hbw3.size _).grown hg4 (by have := hbw3.size; simp; omega) (fun q hq => (ho3.block q hq).1)⟩
            case measure => simp [intOf]; omega
          case false.false =>
            go_wp2_with fail
            go_roundw
            case rel => exact ⟨(i + 1), (j + 1), ea, frm, false, out, rfl, rfl, by go_num, by go_num, hi1, hj1, HST.out, ho3, hbw3⟩
            case measure => simp [intOf]; omega
          case false.true =>
            go_wp2_with fail
            go_roundw
            case rel => exact ⟨(i + 1), (j + 1), ea, ea, true, out, rfl, rfl, by go_num, by go_num, hi1, hj1, HST.out, ho3, hbw3⟩
            case measure => simp [intOf]; omega
          case true.true =>
            go_wp2_with fail
            go_roundw
            case rel => exact ⟨(i + 1), (j + 1), ea, frm, true, out, rfl, rfl, by go_num, by go_num, hi1, hj1, HST.out, ho3, hbw3⟩
            case measure => simp [intOf]; omega
      · cases q1 <;> cases q2 <;> simp at hqq
        all_goals
          have hx2 : ((ea : Int) == (eb : Int)) = false := by simp; omega
          obtain ⟨hst, hat, hfr, hij, hi1, hj1⟩ := HI2.out eb i (j + 1) (by omega) (by rw [if_neg (by omega)]) (by rw [if_pos rfl])
          have HST := Lib.hid hst
          rw [HN.out.1] at hi1
          rw [HN.out.2] at hj1
          clear hst hebl
          go_wp2_with fail
          refine hE1.out.mono ?_
          rintro e w1 ⟨rfl, hb1'⟩
          go_wp2_with fail
          refine (hE2.out w1 hb1').mono ?_
          rintro e w2 ⟨rfl, hb2'⟩
          go_wp2_with fail
          refine (keeps_at HK.out i (j + 1) (by exact par0 i) (by exact par1 j)).mono ?_
          rintro e w3 ⟨rfl, hb3'⟩
          have hbr : Below wr.heap.size wr w3 := (hb1'.trans (hb2'.mono hb1'.size)).trans (hb3'.mono (by have := hb1'.size; have := hb2'.size; omega))
          have ho3 := ho.below hbr (Nat.le_refl _)
          have hbw3 : Below w.heap.size w w3 := hbw.trans (hbr.mono hbw.size)
          clear hb1' hb2' hb3' ho hE1 hE2
          generalize kb mode i (j + 1) = kp at HST ⊢
          cases kept <;> cases kp
          case true.false =>
            obtain ⟨hA1, hA2⟩ := hfr rfl
            have HA := Lib.hid (show ((eb - 1 : Nat) : Int) = (eb : Int) - 1 by omega)
            have y1 : ((eb : Int) - 1) % 18446744073709551616 = (eb : Int) - 1 := by omega
            have y2 : ((eb : Int) - 1) % 4294967296 = (eb : Int) - 1 := by omega
            have y3 : (frm : Int) % 4294967296 = (frm : Int) := by omega
            clear hfr
            go_wp2_with (at_builtin
                         refine wpList_appendG spanC _ rfl (.tmp 67) (.tmp 74) 22 rfl w.heap.size 37 (.agg #[.int .u32 0, .int .u32 0]) 8 Try.underlying22 infoSpan rfl _ out rfl (ho3.alloc_ _) w3.heap.size _ [(frm, eb - 1)] rfl (ShowsG.lit (C := spanC) [(frm, eb - 1)] (by simp [Code.all, pairC, HA.out]) (by simp [maxLen])) (by simp; omega) (by simp; omega) (by have := hbw3.size; simp; omega) ?_
                         intro v4 w4 ho4 hg4)
            go_roundw
            case rel => exact ⟨i, (j + 1), eb, frm, false, out ++ [(frm, eb - 1)], rfl, rfl, by go_num, by go_num, hi1, hj1, HST.out, ho4, (hbw3.alloc hbw3.size _).grown hg4 (by have := hbw3.size; simp; omega) (fun q hq => (ho3.block q hq).1)⟩
            case measure => simp [intOf]; omega
          case false.false =>
            go_wp2_with fail
            go_roundw
            case rel => exact ⟨i, (j + 1), eb, frm, false, out, rfl, rfl, by go_num, by go_num, hi1, hj1, HST.out, ho3, hbw3⟩
            case measure => simp [intOf]; omega
          case false.true =>
            go_wp2_with fail
            go_roundw
            case rel => exact ⟨i, (j + 1), eb, eb, true, out, rfl, rfl, by go_num, by go_num, hi1, hj1, HST.out, ho3, hbw3⟩
            case measure => simp [intOf]; omega
          case true.true =>
            go_wp2_with fail
            go_roundw
            case rel => exact ⟨i, (j + 1), eb, frm, true, out, rfl, rfl, by go_num, by go_num, hi1, hj1, HST.out, ho3, hbw3⟩
            case measure => simp [intOf]; omega
    · have hfin := Swp_end I.out HC.out.1 HC.out.2 HU.out.1 HU.out.2 (by rw [HN.out.1]; omega) (by rw [HN.out.2]; omega)
      rw [HN.out.1, HN.out.2] at hfin
      have HF := Lib.hid hfin
      have hn1 : decide ((i : Int) < 2 * (n1 : Int)) = false := by simp; omega
      have hn2 : decide ((j : Int) < 2 * (n2 : Int)) = false := by simp; omega
      clear hfin
      go_wp2_with fail
      go_ret
      exact ⟨_, out, rfl, ho, HF.out.1, HF.out.2.1, HF.out.2.2.1, HF.out.2.2.2, hbw⟩

end Go.Proofs.Ytpchjgeehejkeaa
