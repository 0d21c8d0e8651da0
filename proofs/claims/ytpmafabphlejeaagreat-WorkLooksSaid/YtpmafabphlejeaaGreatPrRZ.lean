/-
  Texts, together: PrR, PrS.
  Conditions: none but sizes.
-/
import Derived.Deep.RegionHeld3
import Derived.Test.YtpmafabphlejeaaGreatPrIZ
import Derived.Test.YtpmafabphlejeaaGreatValYZ
import Derived.Test.YtpmafabphlejeaaGreatValTZ
/-
  The document's own functions for properties: Check, flag, text, part, Put.
  Conditions: none but sizes.
-/
namespace Go.Proofs.YtpmafabphlejeaaGreat
open Go.RowKit
set_option linter.unusedVariables false
set_option linter.unusedSimpArgs false

theorem same_map {t : Tree} (h : mapB t = true) : sameT t prZ = false := by
  cases hs : sameT t prZ with
  | false => rfl
  | true =>
    have := (sameT_iff t prZ).1 hs
    subst this
    exact absurd h (by decide)
theorem appB_or (t : Tree) : appB t = ((mapB t && decide (checkT t = 0)) || sameT t prZ) := by
  unfold appB
  rw [Bool.eq_iff_iff]
  simp only [decide_eq_true_eq, Bool.or_eq_true, Bool.and_eq_true, sameT_iff]
  unfold appOK mapB
  simp only [decide_eq_true_eq]

set_option maxRecDepth 100000 in
set_option maxHeartbeats 4000000 in
theorem qpcheck_any (p : PropP) (v0 v1 v2 v3 v4 : Value) (w : World) (h : ShowsP w p v0 v1 v2 v3 v4) :
    Calls Tryz.prog 96 #[propV p v0 v1 v2 v3 v4] w fun e w' => e = .returned (.int .i64 (errP p)) ∧ Below w.heap.size w w' := by
  obtain ⟨key, dur, red, id, app⟩ := p
  obtain ⟨hz1, hz2, hT⟩ := h
  simp only [] at hz1 hz2 hT
  have HC := Lib.hid (fun w' (hb : Below w.heap.size w w') => qcheck_any app _ w' (hT.kept hb (Nat.le_refl _)))
  have HS := Lib.hid (fun w' (hb : Below w.heap.size w w') => qsame_main _ app prZ _ _ w' rfl (hT.kept hb (Nat.le_refl _)) (zero_shows w'))
  simp only [Int.cast_ofNat_Int] at HS
  obtain ⟨k0, n0, s0, a3, n3, c3', a4, n4, c4', hvs⟩ := hT.cells5
  simp only [List.cons.injEq, and_true] at hvs
  obtain ⟨rfl, rfl, rfl, rfl, rfl⟩ := hvs
  have hkm : ((k0 : Int) == 168) = mapB app := by
    obtain ⟨kv, A, c, d0, d1, cs, hvs, _⟩ := hT.open
    simp only [List.cons.injEq] at hvs
    have hk := hvs.1
    simp only [Value.int.injEq, true_and] at hk
    rw [hk]
    exact mapB_eq app
  have hcb := check_beq app
  have hb0 := below_boxV w (Obj.cells #[.string key, .bool dur, .bool red, .string id, .int .u8 k0, .int .u64 n0, .string s0, .slice a3 n3 c3', .slice a4 n4 c4'] 33)
  have hX := BoxPr.new (p := ⟨key, dur, red, id, app⟩) (v0 := .int .u8 k0) (v1 := .int .u64 n0) (v2 := .string s0) (v3 := .slice a3 n3 c3') (v4 := .slice a4 n4 c4') w
  obtain ⟨⟨c0, _, _, c3⟩, c4, c5, c6, c7, c8⟩ := hX.cells
  simp only [] at c0 c3
  have herr : errP ⟨key, dur, red, id, app⟩ = if key.size ≤ 255 ∧ id.size ≤ 255 ∧ appB app = true then 0 else 90 := by
    unfold errP validPr
    by_cases hc : key.size ≤ 255 ∧ id.size ≤ 255 ∧ appOK app
    · rw [if_pos hc, if_pos ⟨hc.1, hc.2.1, by simpa [appB] using hc.2.2⟩]
    · rw [if_neg hc, if_neg (fun h => hc ⟨h.1, h.2.1, by simpa [appB] using h.2.2⟩)]
  rw [herr, appB_or]
  have hsm := same_map (t := app)
  have HB := Lib.hid hb0
  have HX := Lib.hid hX
  unfold propV
  simp only []
  generalize decide (checkT app = 0) = D at *
  generalize checkT app = C at *
  generalize sameT app prZ = S at *
  generalize mapB app = M at *
  have HCB := Lib.hid hcb
  clear hb0 hX herr hT hcb
  by_cases h1 : key.size ≤ 255
  case neg =>
    have t1 : decide (255 < (key.size : Int)) = true := by simp; omega
    rw [if_neg (fun h => h1 h.1)]
    go_enter Tryz.func96, Tryz.ntmps96
    go_wp2_with fail
    go_ret
    exact ⟨rfl, HB.out⟩
  have t1 : decide (255 < (key.size : Int)) = false := by simp; omega
  by_cases h2 : id.size ≤ 255
  case neg =>
    have t2 : decide (255 < (id.size : Int)) = true := by simp; omega
    rw [if_neg (fun h => h2 h.2.1)]
    go_enter Tryz.func96, Tryz.ntmps96
    go_wp2_with fail
    go_ret
    exact ⟨rfl, HB.out⟩
  have t2 : decide (255 < (id.size : Int)) = false := by simp; omega
  have hfin : (if key.size ≤ 255 ∧ id.size ≤ 255 ∧ ((M && D) || S) = true then 0 else 90) = if ((M && D) || S) = true then 0 else 90 := by
    simp [h1, h2]
  rw [hfin]
  have HC0 := Lib.hid (HC.out _ HB.out)
  have HS0 := Lib.hid (HS.out _ HB.out)
  clear hfin h1 h2
  cases M with
  | false =>
    clear hsm HC HC0
    go_enter Tryz.func96, Tryz.ntmps96
    go_wp2_with fail
    refine HS0.out.mono ?_
    rintro e w1 ⟨rfl, hb1⟩
    cases S
    all_goals
      go_wp2_with fail
      go_ret
      exact ⟨rfl, HB.out.trans (hb1.mono HB.out.size)⟩
  | true =>
    obtain rfl : S = false := hsm rfl
    clear hsm
    go_enter Tryz.func96, Tryz.ntmps96
    go_wp2_with fail
    refine HC0.out.mono ?_
    rintro e w1 ⟨rfl, hb1⟩
    have hcb := HCB.out
    have HB1 := Lib.hid (HB.out.trans (hb1.mono HB.out.size))
    obtain ⟨_, d4, d5, d6, d7, d8⟩ := (HX.out.kept hb1 (Nat.le_refl _)).cells
    have HS1 := Lib.hid (HS.out _ HB1.out)
    clear hb1 c0 c3 c4 c5 c6 c7 c8
    cases D with
    | true =>
      go_wp2_with fail
      go_ret
      exact ⟨rfl, HB1.out⟩
    | false =>
      go_wp2_with fail
      refine HS1.out.mono ?_
      rintro e w2 ⟨rfl, hb2⟩
      go_wp2_with fail
      go_ret
      exact ⟨rfl, HB1.out.trans (hb2.mono HB1.out.size)⟩

theorem qflag_any (b : Bool) (n : Int) (w : World) : Calls Tryz.prog 99 #[.bool b, .int .u8 n] w fun e w' => e = .returned (.int .u8 (if b = true then n else 0)) ∧ w' = w := by
  cases b
  all_goals
    go_enter Tryz.func99, Tryz.ntmps99
    go_wp2_with fail
    go_ret
    exact ⟨rfl, rfl⟩

set_option maxRecDepth 100000 in
set_option maxHeartbeats 4000000 in
theorem qptext_any (B : Nat) (v : Value) (l : List UInt8) (s : ByteArray) (w : World) (h : Own 5 w B v l) (hB : B ≤ w.heap.size) (hl : l.length ≤ 1000) (hs : s.size ≤ 255) :
    Calls Tryz.prog 98 #[v, .string s] w fun e w' => ∃ v', e = .returned v' ∧ Own 5 w' B v' (l ++ txtF s) ∧ Below B w w' := by
  have hl2 := hasB_list s
  unfold txtF
  cases hb : hasB s with
  | false =>
    rw [hb] at hl2
    have hl3 : s.toList.isEmpty = true := hl2
    have hl4 : s.toList = [] := List.isEmpty_iff.1 hl3
    rw [if_neg (by decide), List.append_nil]
    clear hl2 hb
    go_enter Tryz.func98, Tryz.ntmps98
    go_wp2_with fail
    go_ret
    exact ⟨_, rfl, h, Below.refl _ _⟩
  | true =>
    rw [hb] at hl2
    have hl3 : s.toList.isEmpty = false := hl2
    have hl4 : ¬ s.toList = [] := by intro e; rw [e] at hl3; cases hl3
    rw [if_pos rfl]
    have hw : IntKind.u8.wrap (s.size : Int) = ((s.size : Nat) : Int) := by
      rw [IntKind.wrap_u8']
      omega
    have hlit : Shows (w.alloc (Obj.cells #[.int .u8 (s.size : Nat)] 5)) w.heap.size (.slice (some ⟨w.heap.size, 0, none⟩) 1 1) [UInt8.ofNat s.size] := by
      refine Shows.lit' [UInt8.ofNat s.size] ?_ (by simp [maxLen])
      have : (UInt8.ofNat s.size).toNat = s.size := by simp; omega
      simp [bs, u8c, this]
    have HLIT := Lib.hid hlit
    have HH := Lib.hid h
    clear hl2 hb hlit
    go_enter Tryz.func98, Tryz.ntmps98
    go_upto_region 4 with (at_builtin; refine wpList_append8 _ rfl (.tmp 8) (.tmp 12) 133 rfl B 5 Tryz.underlying133 info5 _ _ rfl (HH.out.alloc_ _) w.heap.size (.slice (some ⟨w.heap.size, 0, none⟩) 1 1) [UInt8.ofNat s.size] rfl HLIT.out (by simp; omega) (by simp; omega) ?_; intro v3 w3 ho3 hg3)
    have hb3 : Below B w w3 := ((Below.refl B w).alloc hB _).grown hg3 (by simp; omega) (fun k hk => (HH.out.block k hk).1)
    have HO3 := Lib.hid ho3
    have HB3 := Lib.hid hb3
    have hsz := hb3.size
    clear ho3 hg3 hb3
    go_wp2_with (at_builtin; refine wpList_append8s _ rfl (.tmp 14) (.tmp 15) 133 9 rfl B 5 Tryz.underlying133 Tryz.underlying9 info5 _ _ rfl HO3.out s rfl (by simp; omega) (by omega) ?_; intro v4 w4 ho4 hg4)
    go_ret
    refine ⟨_, rfl, ?_, HB3.out.grown hg4 (by omega) (fun k hk => (HO3.out.block k hk).1)⟩
    rw [be_one, ← List.append_assoc]
    exact ho4

set_option maxRecDepth 100000 in
set_option maxHeartbeats 4000000 in
theorem qppart_any (v : Value) (d : Nat) (l : List UInt8) (w : World) (h : Shows w d v l) (hl : l.length ≤ 900000) :
    Calls Tryz.prog 97 #[v] w fun e w' => e = .returned (.string (str8 (be 4 l.length ++ l))) ∧ Below w.heap.size w w' := by
  obtain ⟨A, c, rfl, _⟩ := id h
  have HN := Lib.hid (number_any 4 l.length w (by omega) (by omega))
  have HS := Lib.hid (fun w' (hb : Below w.heap.size w w') => h.keep hb.size (fun hp => hb.block d (h.lt hp)))
  simp only [Int.cast_ofNat_Int] at HN
  have hw : IntKind.u64.wrap (l.length : Int) = ((l.length : Nat) : Int) := by
    rw [IntKind.wrap_u64]
    omega
  clear h
  go_enter Tryz.func97, Tryz.ntmps97
  go_wp2_with fail
  refine HN.out.mono ?_
  rintro e w1 ⟨v1, rfl, ho1, hb1⟩
  have HO1 := Lib.hid ho1
  have HS1 := Lib.hid (HS.out w1 hb1)
  have HB1 := Lib.hid hb1
  clear ho1
  go_wp2_with (at_builtin; refine wpList_append8 _ rfl (.tmp 6) (.tmp 7) 133 rfl w.heap.size 5 Tryz.underlying133 info5 _ _ rfl HO1.out d (.slice A l.length c) l rfl HS1.out (by rw [be_length]; omega) (by have := HB1.out.size; omega) ?_; intro v2 w2 ho2 hg2; obtain ⟨g2, _, hs2⟩ := ho2.shows; have hcv := conv_at hs2)
  go_ret
  exact ⟨rfl, HB1.out.grown hg2 HB1.out.size (fun k hk => (HO1.out.block k hk).1)⟩

/-- Properties in a box of the call's own. -/
structure OneP (w : World) (p : PropP) (v0 v1 v2 v3 v4 : Value) (wx : World) : Prop where
  box : BoxPr wx w.heap.size p v0 v1 v2 v3 v4
  bel : Below w.heap.size w wx
theorem OneP.step {w wx wy : World} {p : PropP} {v0 v1 v2 v3 v4 : Value} (h : OneP w p v0 v1 v2 v3 v4 wx) (hb : Below wx.heap.size wx wy) : OneP w p v0 v1 v2 v3 v4 wy := ⟨h.box.kept hb (Nat.le_refl _), h.bel.trans (hb.mono h.bel.size)⟩
theorem OneP.lt {w wx : World} {p : PropP} {v0 v1 v2 v3 v4 : Value} (h : OneP w p v0 v1 v2 v3 v4 wx) : w.heap.size < wx.heap.size := h.box.lt
theorem sum_flA (d r k : Bool) : IntKind.u8.wrap (IntKind.u8.wrap ((if d = true then (1 : Int) else 0) + (if r = true then (2 : Int) else 0)) + (if k = true then (4 : Int) else 0)) = (flA d r k : Nat) := by
  cases d <;> cases r <;> cases k <;> decide +kernel
theorem sum_flB (i m : Bool) : IntKind.u8.wrap ((if i = true then (1 : Int) else 0) + (if m = true then (2 : Int) else 0)) = (flB i m : Nat) := by
  cases i <;> cases m <;> decide +kernel
theorem own_four (w : World) (c f : Nat) (hc : c < 256) (hf : f < 256) : Own 5 (w.alloc (Obj.cells #[.int .u8 4, .int .u8 (c : Int), .int .u8 0, .int .u8 (f : Nat)] 5)) w.heap.size (.slice (some ⟨w.heap.size, 0, none⟩) 4 4) [4, UInt8.ofNat c, 0, UInt8.ofNat f] := by
  have h1 : (UInt8.ofNat f).toNat = f := by simp; omega
  have h2 : (UInt8.ofNat c).toNat = c := by simp; omega
  exact Own.lit (w := w) (e := 5) (base := w.heap.size) [4, UInt8.ofNat c, 0, UInt8.ofNat f] (by simp [bs, u8c, h1, h2]) (by simp [maxLen]) (Nat.le_refl _)
theorem part_four (c f : Nat) (x : List UInt8) (hf : f < 256) (hc : be 2 c = [4, UInt8.ofNat (c % 256)]) : be 4 ([4, UInt8.ofNat (c % 256), 0, UInt8.ofNat f] ++ x).length ++ ([4, UInt8.ofNat (c % 256), 0, UInt8.ofNat f] ++ x) = partB c f x := by
  have e : be 2 f = [0, UInt8.ofNat f] := by
    have : f / 256 = 0 := by omega
    simp [be_cons, be, this]
  unfold partB
  rw [hc, e]
  rfl

end Go.Proofs.YtpmafabphlejeaaGreat
/-
  The document's Put of properties.
  Conditions: none but sizes.
-/
namespace Go.Proofs.YtpmafabphlejeaaGreat
open Go.RowKit
set_option linter.unusedVariables false
set_option linter.unusedSimpArgs false

theorem four1 (f : Nat) (x : List UInt8) (hf : f < 256) : be 4 ([4, 1, 0, UInt8.ofNat f] ++ x).length ++ ([4, 1, 0, UInt8.ofNat f] ++ x) = partB 1025 f x := part_four 1025 f x hf (by decide)
theorem four2 (f : Nat) (x : List UInt8) (hf : f < 256) : be 4 ([4, 3, 0, UInt8.ofNat f] ++ x).length ++ ([4, 3, 0, UInt8.ofNat f] ++ x) = partB 1027 f x := part_four 1027 f x hf (by decide)

theorem str8_app9 (a b : List UInt8) : str8 a ++ str8 b = str8 (a ++ b) := by
  apply ByteArray.ext
  simp [str8]
theorem below_new (w : World) (o : Obj) : w.heap.size < (w.alloc o).heap.size := by rw [World.size_alloc]; exact Nat.lt_succ_self _
theorem OneP.drw {w wx : World} {p : PropP} {v0 v1 v2 v3 v4 : Value} (h : OneP w p v0 v1 v2 v3 v4 wx) : OneP w p v0 v1 v2 v3 v4 wx.drew := h.step (below_drew1 (Below.refl _ _))
theorem OneP.c3 {w wx : World} {p : PropP} {v0 v1 v2 v3 v4 : Value} (h : OneP w p v0 v1 v2 v3 v4 wx) : wx.cell? ⟨w.heap.size, 0, none⟩ = some (.string p.key) ∧ wx.cell? ⟨w.heap.size, 1, none⟩ = some (.bool p.dur) ∧ wx.cell? ⟨w.heap.size, 2, none⟩ = some (.bool p.red) ∧ wx.cell? ⟨w.heap.size, 3, none⟩ = some (.string p.id) :=
  h.box.cells.1

set_option maxRecDepth 100000 in
set_option maxHeartbeats 16000000 in
theorem qpput_any (p : PropP) (v0 v1 v2 v3 v4 : Value) (w : World) (h : ShowsP w p v0 v1 v2 v3 v4) :
    Calls Tryz.prog 85 #[propV p v0 v1 v2 v3 v4] w fun e w' => e = .returned (.tuple #[.string (putPr p), .int .i64 (errP p)]) ∧ Below w.heap.size w w' := by
  have HCK := Lib.hid (fun w' (hb : Below w.heap.size w w') => qpcheck_any p v0 v1 v2 v3 v4 w' (h.kept hb (Nat.le_refl _)))
  have HBY := Lib.hid (fun (hm : mapB p.app = true) (hv : validPr p) w' (hb : Below w.heap.size w w') => (show Calls Tryz.prog 100 #[.agg [v0, v1, v2, v3, v4].toArray] w' (EncSaid p.app w') from by
    have hc : checkT p.app = 0 := by
      rcases hv.2.2 with ⟨_, hc⟩ | hc
      · exact hc
      · rw [hc] at hm; exact absurd hm (by decide)
    have hcv : validT p.app = true ∧ cntT p.app ≤ 200 := by
      unfold checkT at hc
      split at hc
      · cases hc
      · split at hc
        · cases hc
        · rename_i h1 h2
          refine ⟨?_, by omega⟩
          cases hvv : validT p.app with
          | true => rfl
          | false => rw [hvv] at hc; simp at hc
    exact qbytes_any _ p.app [v0, v1, v2, v3, v4] w' rfl (h.app.kept hb (Nat.le_refl _)) hcv.1 hcv.2))
  unfold EncSaid at HBY
  have hP1 : validPr p → putPr p = str8 (partB 1025 (fA p) (txtF p.key) ++ (if fB p = 0 then [] else partB 1027 (fB p) (txtF p.id ++ appF p.app))) := fun hv => by unfold putPr; rw [if_pos hv]; rfl
  have hP2 : ¬ validPr p → putPr p = ⟨#[]⟩ := fun hv => by unfold putPr; rw [if_neg hv]
  have hl1 : validPr p → (txtF p.key).length ≤ 256 ∧ (txtF p.id).length ≤ 256 ∧ (appF p.app).length ≤ 872200 ∧ p.key.size ≤ 255 ∧ p.id.size ≤ 255 := fun hv => ⟨txtF_len _ hv.1, txtF_len _ hv.2.1, appF_len hv.2.2, hv.1, hv.2.1⟩
  have hfa := fA_lt p
  have hfb := fB_lt p
  have hE := @errP_ok p
  have hE2 := @errP_no p
  obtain ⟨k0, n0, s0, a3, n3, c3', a4, n4, c4', hvs⟩ := h.app.cells5
  simp only [List.cons.injEq, and_true] at hvs
  obtain ⟨rfl, rfl, rfl, rfl, rfl⟩ := hvs
  have hkm : ((k0 : Int) == 168) = mapB p.app := by
    obtain ⟨kv, A, c, d0, d1, cs, hvs, _⟩ := h.app.open
    simp only [List.cons.injEq] at hvs
    have hk := hvs.1
    simp only [Value.int.injEq, true_and] at hk
    rw [hk]
    exact mapB_eq p.app
  obtain ⟨key, dur, red, id, app⟩ := p
  have hbf : fB ⟨key, dur, red, id, app⟩ = 0 ↔ (hasB id = false ∧ mapB app = false) := ⟨flB_zero, fun ⟨h1, h2⟩ => by show flB (hasB id) (mapB app) = 0; rw [h1, h2]; rfl⟩
  have hsa : IntKind.u8.wrap (IntKind.u8.wrap ((if dur = true then (1 : Int) else 0) + (if red = true then (2 : Int) else 0)) + (if hasB key = true then (4 : Int) else 0)) = (fA ⟨key, dur, red, id, app⟩ : Nat) := sum_flA dur red (hasB key)
  have hsb : IntKind.u8.wrap ((if hasB id = true then (1 : Int) else 0) + (if mapB app = true then (2 : Int) else 0)) = (fB ⟨key, dur, red, id, app⟩ : Nat) := sum_flB (hasB id) (mapB app)
  have hlk := hasB_list key
  have hli := hasB_list id
  have happ : appF app = if mapB app = true then bytesT app else [] := rfl
  have hX0 := BoxPr.new (p := ⟨key, dur, red, id, app⟩) (v0 := .int .u8 k0) (v1 := .int .u64 n0) (v2 := .string s0) (v3 := .slice a3 n3 c3') (v4 := .slice a4 n4 c4') w
  have hB0 := below_boxV w (Obj.cells #[.string key, .bool dur, .bool red, .string id, .int .u8 k0, .int .u64 n0, .string s0, .slice a3 n3 c3', .slice a4 n4 c4'] 33)
  have HO0 : Hid (OneP w ⟨key, dur, red, id, app⟩ (.int .u8 k0) (.int .u64 n0) (.string s0) (.slice a3 n3 c3') (.slice a4 n4 c4') _) := Lib.hid ⟨hX0, hB0⟩
  obtain ⟨⟨p0, p1, p2, p3⟩, p4, p5, p6, p7, p8⟩ := hX0.cells
  unfold propV at HCK ⊢
  simp only [] at p0 p1 p2 p3 HCK HBY hP1 hP2 hl1 hkm ⊢
  have HCK0 := Lib.hid (HCK.out _ hB0)
  clear hX0 hB0 h HCK
  by_cases hv : validPr ⟨key, dur, red, id, app⟩
  case neg =>
    rw [hP2 hv]
    rw [hE2 hv] at HCK0 ⊢
    clear hP1 hP2 hl1 hE hE2 hbf hsa hsb happ HBY hkm hlk hli
    go_enter Tryz.func85, Tryz.ntmps85
    go_wp2_with fail
    refine HCK0.out.mono ?_
    rintro e w1 ⟨rfl, hb1⟩
    go_wp2_with fail
    go_ret2
    exact ⟨rfl, HO0.out.bel.trans (hb1.mono HO0.out.bel.size)⟩
  rw [hP1 hv]
  rw [hE hv] at HCK0 ⊢
  obtain ⟨l1, l2, l3, z1, z2⟩ := hl1 hv
  have HBY1 := Lib.hid (fun hm => HBY.out hm hv)
  have F1 := four1 (fA ⟨key, dur, red, id, app⟩) (txtF key) (by omega)
  have F2 := fun x => four2 (fB ⟨key, dur, red, id, app⟩) x (by omega)
  have hbf' : ((if fB ⟨key, dur, red, id, app⟩ = 0 then [] else partB 1027 (fB ⟨key, dur, red, id, app⟩) (txtF id ++ appF app)) : List UInt8) = if hasB id = false ∧ mapB app = false then [] else partB 1027 (fB ⟨key, dur, red, id, app⟩) (txtF id ++ appF app) := by
    by_cases hz : fB ⟨key, dur, red, id, app⟩ = 0
    · rw [if_pos hz, if_pos (hbf.1 hz)]
    · rw [if_neg hz, if_neg (fun h => hz (hbf.2 h))]
  rw [hbf']
  have HTK := Lib.hid (fun B v l w' (ho : Own 5 w' B v l) (hB : B ≤ w'.heap.size) (hl : l.length ≤ 1000) => qptext_any B v l key w' ho hB hl z1)
  have HTI := Lib.hid (fun B v l w' (ho : Own 5 w' B v l) (hB : B ≤ w'.heap.size) (hl : l.length ≤ 1000) => qptext_any B v l id w' ho hB hl z2)
  clear hP1 hP2 hl1 hE hE2 hbf hbf' HBY z1 z2 hv
  generalize fA ⟨key, dur, red, id, app⟩ = fa at *
  generalize fB ⟨key, dur, red, id, app⟩ = fb at *
  obtain ⟨kn, hkn⟩ : ∃ kn : Bool, kn = !hasB key := ⟨_, rfl⟩
  have hk2 : hasB key = !kn := by rw [hkn]; simp
  obtain ⟨im, him⟩ : ∃ im : Bool, im = !hasB id := ⟨_, rfl⟩
  have hi2 : hasB id = !im := by rw [him]; simp
  rw [← hkn] at hlk
  rw [← him] at hli
  rw [hk2] at hsa
  rw [hi2] at hsb ⊢
  have H1 := Lib.hid (fun w => qflag_any dur 1 w)
  have H2 := Lib.hid (fun w => qflag_any red 2 w)
  have H4 := Lib.hid (fun w => qflag_any (!kn) 4 w)
  have HI1 := Lib.hid (fun w => qflag_any (!im) 1 w)
  have HI2 := Lib.hid (fun w => qflag_any (mapB app) 2 w)
  have OW1 := Lib.hid (fun w => (show Own 5 (w.alloc (Obj.cells #[.int .u8 4, .int .u8 1, .int .u8 0, .int .u8 (fa : Nat)] 5)).drew w.heap.size (.slice (some ⟨w.heap.size, 0, none⟩) 4 4) [4, 1, 0, UInt8.ofNat fa] from (own_four w 1 fa (by omega) (by omega)).keep (fun _ _ => rfl)))
  have OW2 := Lib.hid (fun w => (show Own 5 (w.alloc (Obj.cells #[.int .u8 4, .int .u8 3, .int .u8 0, .int .u8 (fb : Nat)] 5)).drew w.heap.size (.slice (some ⟨w.heap.size, 0, none⟩) 4 4) [4, 3, 0, UInt8.ofNat fb] from (own_four w 3 fb (by omega) (by omega)).keep (fun _ _ => rfl)))
  generalize mapB app = M at *
  generalize (if dur = true then (1 : Int) else 0) = f1 at *
  generalize (if red = true then (2 : Int) else 0) = f2 at *
  generalize (if (!kn) = true then (4 : Int) else 0) = f4 at *
  generalize (if (!im) = true then (1 : Int) else 0) = g1 at *
  generalize (if M = true then (2 : Int) else 0) = g2 at *
  generalize txtF key = X1 at *
  generalize txtF id = X2 at *
  obtain ⟨OUT, hOUT⟩ : ∃ OUT, OUT = str8 (partB 1025 fa X1 ++ if (!im) = false ∧ M = false then [] else partB 1027 fb (X2 ++ appF app)) := ⟨_, rfl⟩
  rw [← hOUT]
  have HOUT := Lib.hid hOUT
  have HF1 := Lib.hid F1
  have HF2 := Lib.hid F2
  have HAPP := Lib.hid happ
  have HSB := Lib.hid hsb
  clear hk2 hi2 hkn him F1 F2 happ hsb hOUT
  go_enter Tryz.func85, Tryz.ntmps85
  go_wp2_with fail
  refine HCK0.out.mono ?_
  rintro e w1 ⟨rfl, hb1⟩
  have hO1 := HO0.out.step hb1
  clear p0 p1 p2 p3 p4 p5 p6 p7 p8 hb1
  go_upto_region 3 with fail
  have hO1d := OneP.drw hO1
  go_cut [4] from 10 to 26 (fun aq wx => aq = .string (str8 (partB 1025 fa X1)) ∧ OneP w ⟨key, dur, red, id, app⟩ (.int .u8 k0) (.int .u64 n0) (.string s0) (.slice a3 n3 c3') (.slice a4 n4 c4') wx)
  case first =>
    go_region_held3 (fun w' => w'.cell? ⟨w.heap.size, 0, none⟩ = some (.string key) ∧ w'.cell? ⟨w.heap.size, 1, none⟩ = some (.bool dur) ∧ w'.cell? ⟨w.heap.size, 2, none⟩ = some (.bool red) ∧ w'.cell? ⟨w.heap.size, 3, none⟩ = some (.string id)) (first | with_reducible exact OneP.c3 hOP | with_reducible exact OneP.c3 hOT | with_reducible exact OneP.c3 hO1d | with_reducible exact OneP.c3 (OneP.drw (OneP.step hO1 (below_boxV _ _))))
      (first
        | (go_at_call 99
           first
             | (with_reducible refine (H1.out _).mono ?_
                rintro e5 w5 ⟨rfl, rfl⟩)
             | (with_reducible refine (H2.out _).mono ?_
                rintro e5 w5 ⟨rfl, rfl⟩)
             | (with_reducible refine (H4.out _).mono ?_
                rintro e5 w5 ⟨rfl, rfl⟩))
        | (go_at_call 98
           with_reducible refine (HTK.out _ _ _ _ (OW1.out _) (Nat.le_of_lt (alloc_drew_lt _ _)) (by simp)).mono ?_
           rintro eT wT ⟨vT, rfl, hoT, hbT⟩
           have hOT := hO1.step ((below_drew1 (below_boxV _ _)).trans hbT)
           obtain ⟨gT, _, hsT⟩ := hoT.shows
           have hpt := qppart_any vT gT _ wT hsT (by simp; omega)
           rw [HF1.out] at hpt
           have HPT := Lib.hid hpt
           clear hpt hoT hsT)
        | (go_at_call 97
           with_reducible refine HPT.out.mono ?_
           rintro eP wP ⟨rfl, hbP⟩
           have hOP := hOT.step hbP))
    all_goals
      go_wp2_with fail
      go_meet
      exact ⟨rfl, hOP⟩
  case rest =>
    obtain ⟨rfl, hO2⟩ := hcut
    obtain ⟨⟨e0, e1, e2, e3⟩, e4, e5, e6, e7, e8⟩ := hO2.box.cells
    simp only [] at e0 e1 e2 e3
    clear hO1d
    cases im with
    | true =>
      have hl4 : id.toList = [] := List.isEmpty_iff.1 hli
      cases M with
      | false =>
        go_wp2_with fail
        go_ret2
        refine ⟨?_, hO2.bel⟩
        have hout := HOUT.out
        rw [if_pos (by simp), List.append_nil] at hout
        rw [hout]
        rfl
      | true =>
        simp only [Bool.not_true, Bool.not_false] at HI1
        go_upto_region 7 with fail
        have hO2d := OneP.drw hO2
        have hsb := HSB.out
        go_cut [6] from 39 to 49 (fun aq wx => ∃ (B : Nat), Own 5 wx B aq ([4, 3, 0, UInt8.ofNat fb] ++ X2) ∧ w.heap.size < B ∧ B ≤ wx.heap.size ∧ OneP w ⟨key, dur, red, id, app⟩ (.int .u8 k0) (.int .u64 n0) (.string s0) (.slice a3 n3 c3') (.slice a4 n4 c4') wx)
        case first =>
          go_region_held3 (fun w' => w'.cell? ⟨w.heap.size, 0, none⟩ = some (.string key) ∧ w'.cell? ⟨w.heap.size, 1, none⟩ = some (.bool dur) ∧ w'.cell? ⟨w.heap.size, 2, none⟩ = some (.bool red) ∧ w'.cell? ⟨w.heap.size, 3, none⟩ = some (.string id)) (first | with_reducible exact OneP.c3 hOT | with_reducible exact OneP.c3 hO2d | with_reducible exact OneP.c3 (OneP.drw (OneP.step hO2 (below_boxV _ _))))
            (first
              | (go_at_call 99
                 first
                   | (with_reducible refine (HI1.out _).mono ?_
                      rintro e5 w5 ⟨rfl, rfl⟩)
                   | (with_reducible refine (HI2.out _).mono ?_
                      rintro e5 w5 ⟨rfl, rfl⟩))
              | (go_at_call 98
                 with_reducible refine (HTI.out _ _ _ _ (OW2.out _) (Nat.le_of_lt (alloc_drew_lt _ _)) (by simp)).mono ?_
                 rintro eT wT ⟨vT, rfl, hoT, hbT⟩
                 have hOT := hO2.step ((below_drew1 (below_boxV _ _)).trans hbT)))
          all_goals
            go_wp2_with fail
            go_meet
            exact ⟨_, hoT, hO2.lt, Nat.le_trans (Nat.le_of_lt (alloc_drew_lt _ _)) hbT.size, hOT⟩
        case rest =>
          obtain ⟨B, hoB, hwB, hBx, hO3⟩ := hcut
          rename World => wk
          obtain ⟨_, e4, e5, e6, e7, e8⟩ := hO3.box.cells
          have HOB := Lib.hid hoB
          have HO3 := Lib.hid hO3
          have HBYx := Lib.hid (HBY1.out rfl _ hO3.bel)
          have hap := HAPP.out
          rw [if_pos rfl] at hap
          have HAP := Lib.hid hap
          have hle : (bytesT app).length ≤ 872200 := by rw [← hap]; exact l3
          clear hoB hO3 hap
          generalize bytesT app = EB at *
          go_wp2_with fail
          refine HBYx.out.mono ?_
          rintro e w7 ⟨v7, rfl, ho7, hb7⟩
          obtain ⟨g7, _, hs7⟩ := ho7.shows
          have HO7 := Lib.hid (HOB.out.keep (w' := w7) (fun q hq => hb7.block q (HOB.out.block q hq).2))
          have HO3' := Lib.hid (HO3.out.step hb7)
          have HS7 := Lib.hid hs7
          have hsz7 := hb7.size
          clear ho7 hb7 e4 e5 e6 e7 e8 hs7
          go_upto_region 10 with (at_builtin; refine wpList_append8 _ rfl (.tmp 51) (.tmp 54) 133 rfl B 5 Tryz.underlying133 info5 _ _ rfl HO7.out g7 v7 EB rfl HS7.out (by simp; omega) (by omega) ?_; intro v8 w8 ho8 hg8)
          have hO8 : OneP w ⟨key, dur, red, id, app⟩ (.int .u8 k0) (.int .u64 n0) (.string s0) (.slice a3 n3 c3') (.slice a4 n4 c4') w8 := ⟨(hg8.block _ HO3'.out.box.lt (fun e => by have := (HO7.out.block _ e.symm).1; omega)).trans HO3'.out.box, HO3'.out.bel.grown hg8 HO3'.out.bel.size (fun k hk => by have := (HO7.out.block k hk).1; omega)⟩
          obtain ⟨g8, _, hs8⟩ := ho8.shows
          have hpt := qppart_any v8 g8 _ w8 hs8 (by simp; omega)
          rw [List.append_assoc, HF2.out] at hpt
          have HPT := Lib.hid hpt
          have HO8 := Lib.hid hO8
          clear hpt hO8 ho8 hg8 hs8
          have hs1 := str8_app9 (partB 1025 fa X1) (partB 1027 fb (X2 ++ EB))
          have hz : ¬ 9223372036854775807 < (str8 (partB 1025 fa X1)).size + (str8 (partB 1027 fb (X2 ++ EB))).size := by rw [str8_size, str8_size, partB_len, partB_len]; simp; omega
          have HS1 := Lib.hid hs1
          clear hs1
          go_wp2_with fail
          refine HPT.out.mono ?_
          rintro e w9 ⟨rfl, hb9⟩
          have hs1 := HS1.out
          go_wp2_with fail
          go_ret2
          refine ⟨?_, HO8.out.bel.trans (hb9.mono HO8.out.bel.size)⟩
          have hout := HOUT.out
          rw [if_neg (by simp), HAP.out] at hout
          rw [hout]
          first | rfl | rw [← hs1]; rfl
    | false =>
      have hl4 : ¬ id.toList = [] := by intro e; rw [e] at hli; cases hli
      cases M with
      | false =>
        simp only [Bool.not_true, Bool.not_false] at HI1
        go_upto_region 7 with fail
        have hO2d := OneP.drw hO2
        have hsb := HSB.out
        go_cut [6] from 39 to 49 (fun aq wx => ∃ (B : Nat), Own 5 wx B aq ([4, 3, 0, UInt8.ofNat fb] ++ X2) ∧ w.heap.size < B ∧ B ≤ wx.heap.size ∧ OneP w ⟨key, dur, red, id, app⟩ (.int .u8 k0) (.int .u64 n0) (.string s0) (.slice a3 n3 c3') (.slice a4 n4 c4') wx)
        case first =>
          go_region_held3 (fun w' => w'.cell? ⟨w.heap.size, 0, none⟩ = some (.string key) ∧ w'.cell? ⟨w.heap.size, 1, none⟩ = some (.bool dur) ∧ w'.cell? ⟨w.heap.size, 2, none⟩ = some (.bool red) ∧ w'.cell? ⟨w.heap.size, 3, none⟩ = some (.string id)) (first | with_reducible exact OneP.c3 hOT | with_reducible exact OneP.c3 hO2d | with_reducible exact OneP.c3 (OneP.drw (OneP.step hO2 (below_boxV _ _))))
            (first
              | (go_at_call 99
                 first
                   | (with_reducible refine (HI1.out _).mono ?_
                      rintro e5 w5 ⟨rfl, rfl⟩)
                   | (with_reducible refine (HI2.out _).mono ?_
                      rintro e5 w5 ⟨rfl, rfl⟩))
              | (go_at_call 98
                 with_reducible refine (HTI.out _ _ _ _ (OW2.out _) (Nat.le_of_lt (alloc_drew_lt _ _)) (by simp)).mono ?_
                 rintro eT wT ⟨vT, rfl, hoT, hbT⟩
                 have hOT := hO2.step ((below_drew1 (below_boxV _ _)).trans hbT)))
          all_goals
            go_wp2_with fail
            go_meet
            exact ⟨_, hoT, hO2.lt, Nat.le_trans (Nat.le_of_lt (alloc_drew_lt _ _)) hbT.size, hOT⟩
        case rest =>
          obtain ⟨B, hoB, hwB, hBx, hO3⟩ := hcut
          rename World => wk
          obtain ⟨g8, _, hs8⟩ := hoB.shows
          have hpt := qppart_any _ g8 _ _ hs8 (by simp; omega)
          rw [HF2.out] at hpt
          have HPT := Lib.hid hpt
          have HO8 := Lib.hid hO3
          have hap := HAPP.out
          rw [if_neg (by decide)] at hap
          have HAP := Lib.hid hap
          clear hpt hO3 hoB hs8 hap
          have hs1 := str8_app9 (partB 1025 fa X1) (partB 1027 fb (X2 ++ []))
          have hz : ¬ 9223372036854775807 < (str8 (partB 1025 fa X1)).size + (str8 (partB 1027 fb X2)).size := by rw [str8_size, str8_size, partB_len, partB_len]; omega
          rw [List.append_nil] at hs1
          have HS1 := Lib.hid hs1
          clear hs1
          go_wp2_with fail
          refine HPT.out.mono ?_
          rintro e w9 ⟨rfl, hb9⟩
          have hs1 := HS1.out
          go_wp2_with fail
          go_ret2
          refine ⟨?_, HO8.out.bel.trans (hb9.mono HO8.out.bel.size)⟩
          have hout := HOUT.out
          rw [if_neg (by simp), HAP.out, List.append_nil] at hout
          rw [hout]
          first | rfl | rw [← hs1]; rfl
      | true =>
        simp only [Bool.not_true, Bool.not_false] at HI1
        go_upto_region 7 with fail
        have hO2d := OneP.drw hO2
        have hsb := HSB.out
        go_cut [6] from 39 to 49 (fun aq wx => ∃ (B : Nat), Own 5 wx B aq ([4, 3, 0, UInt8.ofNat fb] ++ X2) ∧ w.heap.size < B ∧ B ≤ wx.heap.size ∧ OneP w ⟨key, dur, red, id, app⟩ (.int .u8 k0) (.int .u64 n0) (.string s0) (.slice a3 n3 c3') (.slice a4 n4 c4') wx)
        case first =>
          go_region_held3 (fun w' => w'.cell? ⟨w.heap.size, 0, none⟩ = some (.string key) ∧ w'.cell? ⟨w.heap.size, 1, none⟩ = some (.bool dur) ∧ w'.cell? ⟨w.heap.size, 2, none⟩ = some (.bool red) ∧ w'.cell? ⟨w.heap.size, 3, none⟩ = some (.string id)) (first | with_reducible exact OneP.c3 hOT | with_reducible exact OneP.c3 hO2d | with_reducible exact OneP.c3 (OneP.drw (OneP.step hO2 (below_boxV _ _))))
            (first
              | (go_at_call 99
                 first
                   | (with_reducible refine (HI1.out _).mono ?_
                      rintro e5 w5 ⟨rfl, rfl⟩)
                   | (with_reducible refine (HI2.out _).mono ?_
                      rintro e5 w5 ⟨rfl, rfl⟩))
              | (go_at_call 98
                 with_reducible refine (HTI.out _ _ _ _ (OW2.out _) (Nat.le_of_lt (alloc_drew_lt _ _)) (by simp)).mono ?_
                 rintro eT wT ⟨vT, rfl, hoT, hbT⟩
                 have hOT := hO2.step ((below_drew1 (below_boxV _ _)).trans hbT)))
          all_goals
            go_wp2_with fail
            go_meet
            exact ⟨_, hoT, hO2.lt, Nat.le_trans (Nat.le_of_lt (alloc_drew_lt _ _)) hbT.size, hOT⟩
        case rest =>
          obtain ⟨B, hoB, hwB, hBx, hO3⟩ := hcut
          rename World => wk
          obtain ⟨_, e4, e5, e6, e7, e8⟩ := hO3.box.cells
          have HOB := Lib.hid hoB
          have HO3 := Lib.hid hO3
          have HBYx := Lib.hid (HBY1.out rfl _ hO3.bel)
          have hap := HAPP.out
          rw [if_pos rfl] at hap
          have HAP := Lib.hid hap
          have hle : (bytesT app).length ≤ 872200 := by rw [← hap]; exact l3
          clear hoB hO3 hap
          generalize bytesT app = EB at *
          go_wp2_with fail
          refine HBYx.out.mono ?_
          rintro e w7 ⟨v7, rfl, ho7, hb7⟩
          obtain ⟨g7, _, hs7⟩ := ho7.shows
          have HO7 := Lib.hid (HOB.out.keep (w' := w7) (fun q hq => hb7.block q (HOB.out.block q hq).2))
          have HO3' := Lib.hid (HO3.out.step hb7)
          have HS7 := Lib.hid hs7
          have hsz7 := hb7.size
          clear ho7 hb7 e4 e5 e6 e7 e8 hs7
          go_upto_region 10 with (at_builtin; refine wpList_append8 _ rfl (.tmp 51) (.tmp 54) 133 rfl B 5 Tryz.underlying133 info5 _ _ rfl HO7.out g7 v7 EB rfl HS7.out (by simp; omega) (by omega) ?_; intro v8 w8 ho8 hg8)
          have hO8 : OneP w ⟨key, dur, red, id, app⟩ (.int .u8 k0) (.int .u64 n0) (.string s0) (.slice a3 n3 c3') (.slice a4 n4 c4') w8 := ⟨(hg8.block _ HO3'.out.box.lt (fun e => by have := (HO7.out.block _ e.symm).1; omega)).trans HO3'.out.box, HO3'.out.bel.grown hg8 HO3'.out.bel.size (fun k hk => by have := (HO7.out.block k hk).1; omega)⟩
          obtain ⟨g8, _, hs8⟩ := ho8.shows
          have hpt := qppart_any v8 g8 _ w8 hs8 (by simp; omega)
          rw [List.append_assoc, HF2.out] at hpt
          have HPT := Lib.hid hpt
          have HO8 := Lib.hid hO8
          clear hpt hO8 ho8 hg8 hs8
          have hs1 := str8_app9 (partB 1025 fa X1) (partB 1027 fb (X2 ++ EB))
          have hz : ¬ 9223372036854775807 < (str8 (partB 1025 fa X1)).size + (str8 (partB 1027 fb (X2 ++ EB))).size := by rw [str8_size, str8_size, partB_len, partB_len]; simp; omega
          have HS1 := Lib.hid hs1
          clear hs1
          go_wp2_with fail
          refine HPT.out.mono ?_
          rintro e w9 ⟨rfl, hb9⟩
          have hs1 := HS1.out
          go_wp2_with fail
          go_ret2
          refine ⟨?_, HO8.out.bel.trans (hb9.mono HO8.out.bel.size)⟩
          have hout := HOUT.out
          rw [if_neg (by simp), HAP.out] at hout
          rw [hout]
          first | rfl | rw [← hs1]; rfl

end Go.Proofs.YtpmafabphlejeaaGreat
