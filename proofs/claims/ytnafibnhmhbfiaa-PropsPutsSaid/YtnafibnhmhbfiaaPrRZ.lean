/-
  The document's own functions for properties: Check, flag, text, part, Put.
  Conditions: none but sizes.
-/
import Derived.Deep.RegionHeld3
import Derived.Test.YtnafibnhmhbfiaaPrQZ
import Derived.Test.YtnafibnhmhbfiaaValYZ
import Derived.Test.YtnafibnhmhbfiaaValTZ
namespace Go.Proofs.Ytnafibnhmhbfiaa
open Go.RowKit
set_option linter.unusedVariables false
set_option linter.unusedSimpArgs false

theorem same_map {t : Tree} (h : mapB t = true) : sameT t prZ = false := by
  cases hs : sameT t prZ with
  | false => rfl
  | true =>
    have := (sameT_iff t prZ).1 hs
    subst this
    exact absurd h (by decide)
theorem appB_or (t : Tree) : appB t = ((mapB t && decide (checkT t = 0)) || sameT t prZ) := by
  unfold appB
  rw [Bool.eq_iff_iff]
  simp only [decide_eq_true_eq, Bool.or_eq_true, Bool.and_eq_true, sameT_iff]
  unfold appOK mapB
  simp only [decide_eq_true_eq]

set_option maxRecDepth 100000 in
set_option maxHeartbeats 4000000 in
theorem qpcheck_any (p : PropP) (v0 v1 v2 v3 v4 : Value) (w : World) (h : ShowsP w p v0 v1 v2 v3 v4) :
    Calls Try.prog 33 #[propV p v0 v1 v2 v3 v4] w fun e w' => e = .returned (.int .i64 (errP p)) ∧ Below w.heap.size w w' := by
  obtain ⟨key, dur, red, id, app⟩ := p
  obtain ⟨hz1, hz2, hT⟩ := h
  simp only [] at hz1 hz2 hT
  have HC := Lib.hid (fun w' (hb : Below w.heap.size w w') => qcheck_any app _ w' (hT.kept hb (Nat.le_refl _)))
  have HS := Lib.hid (fun w' (hb : Below w.heap.size w w') => qsame_main _ app prZ _ _ w' rfl (hT.kept hb (Nat.le_refl _)) (zero_shows w'))
  simp only [Int.cast_ofNat_Int] at HS
  obtain ⟨k0, n0, s0, a3, n3, c3', a4, n4, c4', hvs⟩ := hT.cells5
  simp only [List.cons.injEq, and_true] at hvs
  obtain ⟨rfl, rfl, rfl, rfl, rfl⟩ := hvs
  have hkm : ((k0 : Int) == 168) = mapB app := by
    obtain ⟨kv, A, c, d0, d1, cs, hvs, _⟩ := hT.open
    simp only [List.cons.injEq] at hvs
    have hk := hvs.1
    simp only [Value.int.injEq, true_and] at hk
    rw [hk]
    exact mapB_eq app
  have hcb := check_beq app
  have hb0 := below_boxV w (Obj.cells #[.string key, .bool dur, .bool red, .string id, .int .u8 k0, .int .u64 n0, .string s0, .slice a3 n3 c3', .slice a4 n4 c4'] 29)
  have hX := BoxPr.new (p := ⟨key, dur, red, id, app⟩) (v0 := .int .u8 k0) (v1 := .int .u64 n0) (v2 := .string s0) (v3 := .slice a3 n3 c3') (v4 := .slice a4 n4 c4') w
  obtain ⟨⟨c0, _, _, c3⟩, c4, c5, c6, c7, c8⟩ := hX.cells
  simp only [] at c0 c3
  have herr : errP ⟨key, dur, red, id, app⟩ = if key.size ≤ 255 ∧ id.size ≤ 255 ∧ appB app = true then 0 else 90 := by
    unfold errP validPr
    by_cases hc : key.size ≤ 255 ∧ id.size ≤ 255 ∧ appOK app
    · rw [if_pos hc, if_pos ⟨hc.1, hc.2.1, by simpa [appB] using hc.2.2⟩]
    · rw [if_neg hc, if_neg (fun h => hc ⟨h.1, h.2.1, by simpa [appB] using h.2.2⟩)]
  rw [herr, appB_or]
  have hsm := same_map (t := app)
  have HB := Lib.hid hb0
  have HX := Lib.hid hX
  unfold propV
  simp only []
  generalize decide (checkT app = 0) = D at *
  generalize checkT app = C at *
  generalize sameT app prZ = S at *
  generalize mapB app = M at *
  have HCB := Lib.hid hcb
  clear hb0 hX herr hT hcb
  by_cases h1 : key.size ≤ 255
  case neg =>
    have t1 : decide (255 < (key.size : Int)) = true := by simp; omega
    rw [if_neg (fun h => h1 h.1)]
    go_enter Try.func33, Try.ntmps33
    go_wp2_with fail
    go_ret
    exact ⟨rfl, HB.out⟩
  have t1 : decide (255 < (key.size : Int)) = false := by simp; omega
  by_cases h2 : id.size ≤ 255
  case neg =>
    have t2 : decide (255 < (id.size : Int)) = true := by simp; omega
    rw [if_neg (fun h => h2 h.2.1)]
    go_enter Try.func33, Try.ntmps33
    go_wp2_with fail
    go_ret
    exact ⟨rfl, HB.out⟩
  have t2 : decide (255 < (id.size : Int)) = false := by simp; omega
  have hfin : (if key.size ≤ 255 ∧ id.size ≤ 255 ∧ ((M && D) || S) = true then 0 else 90) = if ((M && D) || S) = true then 0 else 90 := by
    simp [h1, h2]
  rw [hfin]
  have HC0 := Lib.hid (HC.out _ HB.out)
  have HS0 := Lib.hid (HS.out _ HB.out)
  clear hfin h1 h2
  cases M with
  | false =>
    clear hsm HC HC0
    go_enter Try.func33, Try.ntmps33
    go_wp2_with fail
    refine HS0.out.mono ?_
    rintro e w1 ⟨rfl, hb1⟩
    cases S
    all_goals
      go_wp2_with fail
      go_ret
      exact ⟨rfl, HB.out.trans (hb1.mono HB.out.size)⟩
  | true =>
    obtain rfl : S = false := hsm rfl
    clear hsm
    go_enter Try.func33, Try.ntmps33
    go_wp2_with fail
    refine HC0.out.mono ?_
    rintro e w1 ⟨rfl, hb1⟩
    have hcb := HCB.out
    have HB1 := Lib.hid (HB.out.trans (hb1.mono HB.out.size))
    obtain ⟨_, d4, d5, d6, d7, d8⟩ := (HX.out.kept hb1 (Nat.le_refl _)).cells
    have HS1 := Lib.hid (HS.out _ HB1.out)
    clear hb1 c0 c3 c4 c5 c6 c7 c8
    cases D with
    | true =>
      go_wp2_with fail
      go_ret
      exact ⟨rfl, HB1.out⟩
    | false =>
      go_wp2_with fail
      refine HS1.out.mono ?_
      rintro e w2 ⟨rfl, hb2⟩
      go_wp2_with fail
      go_ret
      exact ⟨rfl, HB1.out.trans (hb2.mono HB1.out.size)⟩

theorem qflag_any (b : Bool) (n : Int) (w : World) : Calls Try.prog 36 #[.bool b, .int .u8 n] w fun e w' => e = .returned (.int .u8 (if b = true then n else 0)) ∧ w' = w := by
  cases b
  all_goals
    go_enter Try.func36, Try.ntmps36
    go_wp2_with fail
    go_ret
    exact ⟨rfl, rfl⟩

set_option maxRecDepth 100000 in
set_option maxHeartbeats 4000000 in
theorem qptext_any (B : Nat) (v : Value) (l : List UInt8) (s : ByteArray) (w : World) (h : Own 5 w B v l) (hB : B ≤ w.heap.size) (hl : l.length ≤ 1000) (hs : s.size ≤ 255) :
    Calls Try.prog 35 #[v, .string s] w fun e w' => ∃ v', e = .returned v' ∧ Own 5 w' B v' (l ++ txtF s) ∧ Below B w w' := by
  have hl2 := hasB_list s
  unfold txtF
  cases hb : hasB s with
  | false =>
    rw [hb] at hl2
    have hl3 : s.toList.isEmpty = true := hl2
    have hl4 : s.toList = [] := List.isEmpty_iff.1 hl3
    rw [if_neg (by decide), List.append_nil]
    clear hl2 hb
    go_enter Try.func35, Try.ntmps35
    go_wp2_with fail
    go_ret
    exact ⟨_, rfl, h, Below.refl _ _⟩
  | true =>
    rw [hb] at hl2
    have hl3 : s.toList.isEmpty = false := hl2
    have hl4 : ¬ s.toList = [] := by intro e; rw [e] at hl3; cases hl3
    rw [if_pos rfl]
    have hw : IntKind.u8.wrap (s.size : Int) = ((s.size : Nat) : Int) := by
      rw [IntKind.wrap_u8']
      omega
    have hlit : Shows (w.alloc (Obj.cells #[.int .u8 (s.size : Nat)] 5)) w.heap.size (.slice (some ⟨w.heap.size, 0, none⟩) 1 1) [UInt8.ofNat s.size] := by
      refine Shows.lit' [UInt8.ofNat s.size] ?_ (by simp [maxLen])
      have : (UInt8.ofNat s.size).toNat = s.size := by simp; omega
      simp [bs, u8c, this]
    have HLIT := Lib.hid hlit
    have HH := Lib.hid h
    clear hl2 hb hlit
    go_enter Try.func35, Try.ntmps35
    go_upto_region 4 with (at_builtin; refine wpList_append8 _ rfl (.tmp 8) (.tmp 12) 46 rfl B 5 Try.underlying46 info5 _ _ rfl (HH.out.alloc_ _) w.heap.size (.slice (some ⟨w.heap.size, 0, none⟩) 1 1) [UInt8.ofNat s.size] rfl HLIT.out (by simp; omega) (by simp; omega) ?_; intro v3 w3 ho3 hg3)
    have hb3 : Below B w w3 := ((Below.refl B w).alloc hB _).grown hg3 (by simp; omega) (fun k hk => (HH.out.block k hk).1)
    have HO3 := Lib.hid ho3
    have HB3 := Lib.hid hb3
    have hsz := hb3.size
    clear ho3 hg3 hb3
    go_wp2_with (at_builtin; refine wpList_append8s _ rfl (.tmp 14) (.tmp 15) 46 9 rfl B 5 Try.underlying46 Try.underlying9 info5 _ _ rfl HO3.out s rfl (by simp; omega) (by omega) ?_; intro v4 w4 ho4 hg4)
    go_ret
    refine ⟨_, rfl, ?_, HB3.out.grown hg4 (by omega) (fun k hk => (HO3.out.block k hk).1)⟩
    rw [be_one, ← List.append_assoc]
    exact ho4

set_option maxRecDepth 100000 in
set_option maxHeartbeats 4000000 in
theorem qppart_any (v : Value) (d : Nat) (l : List UInt8) (w : World) (h : Shows w d v l) (hl : l.length ≤ 900000) :
    Calls Try.prog 34 #[v] w fun e w' => e = .returned (.string (str8 (be 4 l.length ++ l))) ∧ Below w.heap.size w w' := by
  obtain ⟨A, c, rfl, _⟩ := id h
  have HN := Lib.hid (number_any 4 l.length w (by omega) (by omega))
  have HS := Lib.hid (fun w' (hb : Below w.heap.size w w') => h.keep hb.size (fun hp => hb.block d (h.lt hp)))
  simp only [Int.cast_ofNat_Int] at HN
  have hw : IntKind.u64.wrap (l.length : Int) = ((l.length : Nat) : Int) := by
    rw [IntKind.wrap_u64]
    omega
  clear h
  go_enter Try.func34, Try.ntmps34
  go_wp2_with fail
  refine HN.out.mono ?_
  rintro e w1 ⟨v1, rfl, ho1, hb1⟩
  have HO1 := Lib.hid ho1
  have HS1 := Lib.hid (HS.out w1 hb1)
  have HB1 := Lib.hid hb1
  clear ho1
  go_wp2_with (at_builtin; refine wpList_append8 _ rfl (.tmp 6) (.tmp 7) 46 rfl w.heap.size 5 Try.underlying46 info5 _ _ rfl HO1.out d (.slice A l.length c) l rfl HS1.out (by rw [be_length]; omega) (by have := HB1.out.size; omega) ?_; intro v2 w2 ho2 hg2; obtain ⟨g2, _, hs2⟩ := ho2.shows; have hcv := conv_at hs2)
  go_ret
  exact ⟨rfl, HB1.out.grown hg2 HB1.out.size (fun k hk => (HO1.out.block k hk).1)⟩

/-- Properties in a box of the call's own. -/
structure OneP (w : World) (p : PropP) (v0 v1 v2 v3 v4 : Value) (wx : World) : Prop where
  box : BoxPr wx w.heap.size p v0 v1 v2 v3 v4
  bel : Below w.heap.size w wx
theorem OneP.step {w wx wy : World} {p : PropP} {v0 v1 v2 v3 v4 : Value} (h : OneP w p v0 v1 v2 v3 v4 wx) (hb : Below wx.heap.size wx wy) : OneP w p v0 v1 v2 v3 v4 wy := ⟨h.box.kept hb (Nat.le_refl _), h.bel.trans (hb.mono h.bel.size)⟩
theorem OneP.lt {w wx : World} {p : PropP} {v0 v1 v2 v3 v4 : Value} (h : OneP w p v0 v1 v2 v3 v4 wx) : w.heap.size < wx.heap.size := h.box.lt
theorem sum_flA (d r k : Bool) : IntKind.u8.wrap (IntKind.u8.wrap ((if d = true then (1 : Int) else 0) + (if r = true then (2 : Int) else 0)) + (if k = true then (4 : Int) else 0)) = (flA d r k : Nat) := by
  cases d <;> cases r <;> cases k <;> decide +kernel
theorem sum_flB (i m : Bool) : IntKind.u8.wrap ((if i = true then (1 : Int) else 0) + (if m = true then (2 : Int) else 0)) = (flB i m : Nat) := by
  cases i <;> cases m <;> decide +kernel
theorem own_four (w : World) (c f : Nat) (hc : c < 256) (hf : f < 256) : Own 5 (w.alloc (Obj.cells #[.int .u8 4, .int .u8 (c : Int), .int .u8 0, .int .u8 (f : Nat)] 5)) w.heap.size (.slice (some ⟨w.heap.size, 0, none⟩) 4 4) [4, UInt8.ofNat c, 0, UInt8.ofNat f] := by
  have h1 : (UInt8.ofNat f).toNat = f := by simp; omega
  have h2 : (UInt8.ofNat c).toNat = c := by simp; omega
  exact Own.lit (w := w) (e := 5) (base := w.heap.size) [4, UInt8.ofNat c, 0, UInt8.ofNat f] (by simp [bs, u8c, h1, h2]) (by simp [maxLen]) (Nat.le_refl _)
theorem part_four (c f : Nat) (x : List UInt8) (hf : f < 256) (hc : be 2 c = [4, UInt8.ofNat (c % 256)]) : be 4 ([4, UInt8.ofNat (c % 256), 0, UInt8.ofNat f] ++ x).length ++ ([4, UInt8.ofNat (c % 256), 0, UInt8.ofNat f] ++ x) = partB c f x := by
  have e : be 2 f = [0, UInt8.ofNat f] := by
    have : f / 256 = 0 := by omega
    simp [be_cons, be, this]
  unfold partB
  rw [hc, e]
  rfl

end Go.Proofs.Ytnafibnhmhbfiaa
