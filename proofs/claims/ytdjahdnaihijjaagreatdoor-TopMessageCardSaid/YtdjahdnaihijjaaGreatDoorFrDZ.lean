/-
  Texts, together: FrD, FrE.
  Conditions: none but sizes.
-/
import Derived.Deep.CutRange
import Derived.Test.YtdjahdnaihijjaaGreatDoorFrAZ
import Derived.Deep.DeepCutAuto
import Derived.Test.YtdjahdnaihijjaaGreatDoorOctAZ
/-
  The contracts of frame.isStart and of the document's own Well.
  Conditions: none but sizes.
-/
namespace Go.Proofs.YtdjahdnaihijjaaGreatDoor
open Go.RowKit
set_option linter.unusedVariables false
set_option linter.unusedSimpArgs false

/-- The byte before. -/
def prevAt (l : List UInt8) (k : Nat) : Nat := if k = 0 then 0 else byteAt l (k - 1)
theorem prevAt_lt (l : List UInt8) (k : Nat) : prevAt l k < 256 := by
  unfold prevAt
  split
  · decide
  · exact byteAt_lt _ _

theorem shows_byte {w : World} {d o : Nat} {l : List UInt8} (h : ∀ j (h : j < l.length), w.cell? ⟨d, o + j, none⟩ = some (u8c l[j])) {k : Nat} (hk : k < l.length) : w.cell? ⟨d, o + k, none⟩ = some (.int .u8 (byteAt l k)) := by
  rw [h k hk]
  show some (Value.int .u8 ((l[k]).toNat : Int)) = _
  rw [byteAt_get hk]

set_option maxRecDepth 100000 in
set_option maxHeartbeats 4000000 in
theorem start_any (A : Option Addr) (c d : Nat) (l : List UInt8) (rv : Value) (w : World) (h : Shows w d (.slice A l.length c) l) (hl : l.length ≤ 140737488355328) (hr : Rules w rv) :
    Calls Tryz.prog 32 #[.slice A l.length c, rv] w fun e w' => e = .returned (.bool (wellD l)) ∧ w = w' := by
  obtain ⟨rb, ps, rfl, hrb, hps, hcr⟩ := hr
  obtain ⟨hl1, hlc, hcm⟩ := h.lens
  obtain ⟨m, hm⟩ : ∃ m, m = min l.length 12 := ⟨_, rfl⟩
  have hmin : (if (12 : Int) < (l.length : Int) then (12 : Int) else (l.length : Int)) = (m : Int) := by split <;> omega
  have hm1 : m ≤ l.length := by omega
  have hm2 : m ≤ 12 := by omega
  have hmc : m ≤ c := by omega
  have HM := Lib.hid hm
  have HCR := Lib.hid hcr
  have HW := Lib.hid (wellD_iff l)
  have HN := Lib.hid (fun i h1 h2 h => wellD_no (l := l) (i := i) h1 h2 h)
  have HS := Lib.hid (fun (hp : 0 < l.length) => h.at_ hp)
  generalize hwd : wellD l = wd at *
  have HWD := Lib.hid hwd
  clear hm hcr h hwd
  go_enter Tryz.func32, Tryz.ntmps32
  go_wp2_with fail
  clear hmin
  go_loop [5, 16] (fun p i => ∃ k : Nat, k ≤ m ∧ p = .int .u8 (prevAt l k) ∧ i = .int .i64 k ∧ ∀ j, j < k → okAt l j = true) (fun _ i => m - (intOf i).toNat)
  case atStart => exact ⟨0, Nat.zero_le _, rfl, rfl, fun j h => absurd h (Nat.not_lt_zero _)⟩
  case round =>
    obtain ⟨k, hk, rfl, rfl, hok⟩ := hrel
    by_cases hlt : k < m
    · obtain ⟨o, rfl, _, hcl⟩ := HS.out (by omega)
      have hcc := shows_byte hcl (k := k) (by omega)
      obtain ⟨hr1, hr2⟩ := HCR.out k (by omega)
      have hb := byteAt_lt l k
      have hpv := prevAt_lt l k
      have hprev : prevAt l (k + 1) = byteAt l k := by simp [prevAt]
      have HP := Lib.hid hprev
      have h12 : (k : Int) < 12 := by omega
      have hkm : (k : Int) < (m : Int) := by omega
      by_cases hk3 : k = 3
      case pos =>
        rw [if_pos hk3] at hr1
        have hsz : okAt l k = decide (12 ≤ 256 * prevAt l k + byteAt l k ∧ 256 * prevAt l k + byteAt l k ≤ 4096) := by subst hk3; rfl
        have HC := Lib.hid (length_any (prevAt l k) (byteAt l k) w hpv hb)
        rw [← hsz] at HC
        clear hsz hr2 hprev hk3
        cases ho : okAt l k with
        | true =>
          rw [ho] at HC
          have HOK : Hid (∀ j, j < k + 1 → okAt l j = true) := Lib.hid (fun j hj => by
            by_cases hj2 : j < k
            · exact hok j hj2
            · obtain rfl : j = k := by omega
              exact ho)
          clear hok ho hcl
          generalize prevAt l k = pv at *
          generalize byteAt l k = by_ at *
          go_wp2_with fail
          refine HC.out.mono ?_
          rintro e w1 ⟨rfl, rfl⟩
          go_wp2_with fail
          go_round
          case rel => exact ⟨k + 1, by omega, by rw [HP.out], by go_num, HOK.out⟩
          case measure => simp [intOf]; omega
        | false =>
          have hfin := HN.out k (by omega) (by omega) ho
          have HF := Lib.hid hfin
          rw [ho] at HC
          clear hok ho hcl hfin
          generalize prevAt l k = pv at *
          generalize byteAt l k = by_ at *
          go_wp2_with fail
          refine HC.out.mono ?_
          rintro e w1 ⟨rfl, rfl⟩
          go_wp2_with fail
          go_ret
          exact ⟨by rw [HF.out]; rfl, rfl⟩
      case neg =>
        rw [if_neg hk3] at hr1
        have hsz : okAt l k = decide (byteAt l k ≤ mostAt k) := by unfold okAt; rw [if_neg hk3]
        have HC := Lib.hid (rule_any (prevAt l k) (byteAt l k) (mostAt k) (ps k) w hr2)
        rw [← hsz] at HC
        clear hsz hr2 hprev hk3
        cases ho : okAt l k with
        | true =>
          rw [ho] at HC
          have HOK : Hid (∀ j, j < k + 1 → okAt l j = true) := Lib.hid (fun j hj => by
            by_cases hj2 : j < k
            · exact hok j hj2
            · obtain rfl : j = k := by omega
              exact ho)
          clear hok ho hcl
          generalize prevAt l k = pv at *
          generalize byteAt l k = by_ at *
          go_wp2_with fail
          refine HC.out.mono ?_
          rintro e w1 ⟨rfl, rfl⟩
          go_wp2_with fail
          go_round
          case rel => exact ⟨k + 1, by omega, by rw [HP.out], by go_num, HOK.out⟩
          case measure => simp [intOf]; omega
        | false =>
          have hfin := HN.out k (by omega) (by omega) ho
          have HF := Lib.hid hfin
          rw [ho] at HC
          clear hok ho hcl hfin
          generalize prevAt l k = pv at *
          generalize byteAt l k = by_ at *
          go_wp2_with fail
          refine HC.out.mono ?_
          rintro e w1 ⟨rfl, rfl⟩
          go_wp2_with fail
          go_ret
          exact ⟨by rw [HF.out]; rfl, rfl⟩
    · have hkm : ¬ (k : Int) < (m : Int) := by omega
      have hfin : wd = true := HW.out.2 (fun i h1 h2 => hok i (by have := HM.out; omega))
      clear hok
      have HF := Lib.hid hfin
      clear hfin
      go_wp2_with fail
      go_ret
      exact ⟨by rw [HF.out]; rfl, rfl⟩

theorem wraps_two (x y z : Nat) (hx : x < 256) (hy : y < 256) (hz : z = 256 * x + y) : IntKind.i64.wrap (x : Int) = (x : Int) ∧ IntKind.i64.wrap (y : Int) = (y : Int) ∧ IntKind.i64.wrap (256 * (x : Int)) = 256 * (x : Int) ∧ IntKind.i64.wrap (256 * (x : Int) + (y : Int)) = (z : Int) ∧
    wrap64 (x : Int) = (x : Int) ∧ wrap64 (y : Int) = (y : Int) ∧ wrap64 (256 * (x : Int)) = 256 * (x : Int) ∧ wrap64 (256 * (x : Int) + (y : Int)) = (z : Int) :=
  ⟨by rw [IntKind.wrap_i64]; omega, by rw [IntKind.wrap_i64]; omega, by rw [IntKind.wrap_i64]; omega, by rw [IntKind.wrap_i64]; omega, w64_id _ (by omega) (by omega), w64_id _ (by omega) (by omega), w64_id _ (by omega) (by omega), by rw [w64_id _ (by omega) (by omega)]; omega⟩
theorem most_le (l : List UInt8) {k : Nat} (h : okAt l k = true) : k = 3 ∨ byteAt l k ≤ mostAt k := by
  unfold okAt at h
  split at h
  · exact .inl (by assumption)
  · exact .inr (by simpa using h)
theorem most_le2 (l : List UInt8) (k : Nat) (hk : k ≠ 3) : okAt l k = decide (byteAt l k ≤ mostAt k) := by unfold okAt; rw [if_neg hk]

end Go.Proofs.YtdjahdnaihijjaaGreatDoor
/-
  The contracts of frame.wholeFrame, decoded.
  Conditions: at least twelve bytes, where a frame is decoded.
-/
namespace Go.Proofs.YtdjahdnaihijjaaGreatDoor
open Go.RowKit
set_option linter.unusedVariables false
set_option linter.unusedSimpArgs false

/-! ### what stands at a place -/
theorem num_u16 : num 2 = true := by decide
theorem drop_two (l : List UInt8) (i : Nat) (h : i + 1 < l.length) : l.drop i = l[i] :: l[i + 1] :: l.drop (i + 2) := by
  rw [List.drop_eq_getElem_cons (by omega), List.drop_eq_getElem_cons h]
theorem num1_at (l : List UInt8) (i : Nat) (h : i < l.length) : numS 1 (some (l.drop i)) = (byteAt l i, some (l.drop (i + 1))) := by
  have e : takeS 1 (some (l.drop i)) = ([l[i]], some (l.drop (i + 1))) := by
    rw [show (1 : Int) = ((1 : Nat) : Int) from rfl, takeS_ok 1 _ (by rw [List.length_drop]; omega)]
    refine Prod.ext ?_ (by simp)
    show (l.drop i).take 1 = [l[i]]
    rw [List.drop_eq_getElem_cons h]
    rfl
  unfold numS
  rw [if_pos (by decide), e]
  simp only [numOf, List.foldl_cons, List.foldl_nil]
  rw [← byteAt_get h]
  simp
theorem num2_at (l : List UInt8) (i : Nat) (h : i + 1 < l.length) : numS 2 (some (l.drop i)) = (256 * byteAt l i + byteAt l (i + 1), some (l.drop (i + 2))) := by
  have e : takeS 2 (some (l.drop i)) = ([l[i], l[i + 1]], some (l.drop (i + 2))) := by
    rw [show (2 : Int) = ((2 : Nat) : Int) from rfl, takeS_ok 2 _ (by rw [List.length_drop]; omega)]
    refine Prod.ext ?_ (by simp)
    show (l.drop i).take 2 = [l[i], l[i + 1]]
    rw [drop_two l i h]
    rfl
  unfold numS
  rw [if_pos (by decide), e]
  simp only [numOf, List.foldl_cons, List.foldl_nil]
  rw [← byteAt_get h, ← byteAt_get (show i < l.length by omega)]
  simp
  omega
theorem take_at (l : List UInt8) (i n : Nat) (h : i + n ≤ l.length) : (takeS (n : Int) (some (l.drop i))).2 = some (l.drop (i + n)) := by
  rw [takeS_ok n _ (by rw [List.length_drop]; omega)]
  simp
theorem size_num (l : List UInt8) (h : 4 ≤ l.length) : numS 2 (some ((l.drop 2).take 2)) = (sizeAt l, some []) := by
  have e : (l.drop 2).take 2 = [l[2], l[3]] := by rw [drop_two l 2 (by omega)]; rfl
  have h2 := num2_at [l[2], l[3]] 0 (by simp)
  rw [e]
  simp only [List.drop_zero] at h2
  rw [h2]
  simp only [sizeAt, byteAt]
  simp [List.getD, show 2 < l.length by omega, show 3 < l.length by omega]

set_option maxRecDepth 100000 in
set_option maxHeartbeats 2000000 in
theorem whole_any (A : Option Addr) (c d : Nat) (l : List UInt8) (w : World) (h : Shows w d (.slice A l.length c) l) (hl : l.length ≤ 140737488355328) :
    Calls Tryz.prog 33 #[.slice A l.length c] w fun e w' => e = .returned (.tuple #[.int .i64 (if l.length < 12 then 0 else sizeAt l : Nat), .bool (decide (12 ≤ l.length ∧ sizeAt l ≤ l.length))]) ∧ Below w.heap.size w w' := by
  obtain ⟨hl1, hlc, hcm⟩ := h.lens
  by_cases h12 : l.length < 12
  · have hi : (l.length : Int) < 12 := by omega
    have hf : decide (12 ≤ l.length ∧ sizeAt l ≤ l.length) = false := by simp; omega
    rw [if_pos h12, hf]
    clear h hf
    go_enter Tryz.func33, Tryz.ntmps33
    go_wp2_with fail
    go_ret2
    exact ⟨rfl, Below.refl _ _⟩
  · have hi : ¬ (l.length : Int) < 12 := by omega
    have hsz : sizeAt l < 65536 := by
      have := byteAt_lt l 2
      have := byteAt_lt l 3
      unfold sizeAt
      omega
    have hdec : decide (12 ≤ l.length ∧ sizeAt l ≤ l.length) = decide (sizeAt l ≤ l.length) := by
      rw [Bool.eq_iff_iff]
      simp
      omega
    rw [if_neg h12, hdec]
    have hnum := size_num l (by omega)
    obtain ⟨o, rfl, hd, _⟩ := h.at_ (by omega)
    have hsub : Shows w d (.slice (some ⟨d, o + 2, none⟩) 2 (c - 2)) ((l.drop 2).take 2) := by
      have h1 := h.tail (k := 2) (by omega) (some ⟨d, o + 2, none⟩) (fun _ => by simp [add_plain'])
      have h2 := h1.head (k := 2) (by rw [List.length_drop]; omega)
      exact h2
    have HO := Lib.hid (fun w' (hw' : Shows w' d (.slice (some ⟨d, o + 2, none⟩) 2 (c - 2)) ((l.drop 2).take 2)) => open_any _ _ d w' hw' (by simp; omega))
    have HNUM := Lib.hid hnum
    have hml : ((l.drop 2).take 2).length ≤ 2 := by simp; omega
    have HSUB := Lib.hid hsub
    have hc2 : ¬ c = 2 := by omega
    clear h hnum hsub hdec h12
    generalize sizeAt l = z at *
    generalize (l.drop 2).take 2 = m at *
    go_enter Tryz.func33, Tryz.ntmps33
    go_wp2_with fail
    refine (HO.out _ HSUB.out).mono ?_
    rintro e w1 ⟨g, d1, rfl, hr1, hg1, hd1, hb1⟩
    have HN := Lib.hid (num_any g d1 (some m) 2 w1 hr1 (by show m.length ≤ _; omega))
    rw [HNUM.out] at HN
    have hz : IntKind.i64.wrap (z : Int) = (z : Int) := by rw [IntKind.wrap_i64]; omega
    clear hr1
    go_wp2_with fail
    refine HN.out.mono ?_
    rintro e w2 ⟨rfl, hr2, hg2⟩
    have hB2 : Below w.heap.size w w2 := hb1.grown hg2 hb1.size (fun k hk => by cases hk; exact hg1)
    by_cases hzl : z ≤ l.length
    · go_wp2_with fail
      go_ret2
      exact ⟨by simp; omega, hB2⟩
    · go_wp2_with fail
      go_ret2
      exact ⟨by simp; omega, hB2⟩

/-! ### decoded -/
/-- The frame whose bytes these are. -/
def decD (l : List UInt8) : Fr := { a := byteAt l 0 / 8 % 2 == 1, b := byteAt l 0 / 4 % 2 == 1, c := byteAt l 0 / 2 % 2 == 1, d := byteAt l 0 % 2 == 1, t := byteAt l 1, k := byteAt l 5, ch := 256 * byteAt l 6 + byteAt l 7, p := str8 (l.drop 12) }

theorem flag_bits : ∀ n : Nat, n < 256 → ((n &&& 8 != 0) = (n / 8 % 2 == 1)) ∧ ((n &&& 4 != 0) = (n / 4 % 2 == 1)) ∧ ((n &&& 2 != 0) = (n / 2 % 2 == 1)) ∧ ((n &&& 1 != 0) = (n % 2 == 1)) := by decide +kernel
theorem flag_bit (x b : Nat) (hx : x < 256) (hb : b < 256) : (bits .and .u8 (x : Int) (b : Int) != 0) = (x &&& b != 0) := by
  rw [u8_and_nat x b hx hb, Bool.eq_iff_iff]
  simp

theorem BoxF.fr {w : World} {b : Nat} {f : Fr} (h : BoxF w b f) (i : Nat) : w.frozen? ⟨b, i, none⟩ = false := frozen_of_row w b i _ 51 h
theorem BoxF.set4 {w : World} {b : Nat} {f : Fr} (h : BoxF w b f) (n : Nat) : BoxF (w.setCell ⟨b, 4, none⟩ (.int .u8 n)) b { f with t := n } := heap_setCell_same w b 4 _ 51 (.int .u8 n) h
theorem BoxF.set5 {w : World} {b : Nat} {f : Fr} (h : BoxF w b f) (n : Nat) : BoxF (w.setCell ⟨b, 5, none⟩ (.int .u8 n)) b { f with k := n } := heap_setCell_same w b 5 _ 51 (.int .u8 n) h
theorem BoxF.set6 {w : World} {b : Nat} {f : Fr} (h : BoxF w b f) (n : Nat) : BoxF (w.setCell ⟨b, 6, none⟩ (.int .u16 n)) b { f with ch := n } := heap_setCell_same w b 6 _ 51 (.int .u16 n) h
theorem BoxF.set7 {w : World} {b : Nat} {f : Fr} (h : BoxF w b f) (p : ByteArray) : BoxF (w.setCell ⟨b, 7, none⟩ (.string p)) b { f with p := p } := heap_setCell_same w b 7 _ 51 (.string p) h
theorem BoxF.set0 {w : World} {b : Nat} {f : Fr} (h : BoxF w b f) (x : Bool) : BoxF (w.setCell ⟨b, 0, none⟩ (.bool x)) b { f with a := x } := heap_setCell_same w b 0 _ 51 (.bool x) h
theorem BoxF.set1 {w : World} {b : Nat} {f : Fr} (h : BoxF w b f) (x : Bool) : BoxF (w.setCell ⟨b, 1, none⟩ (.bool x)) b { f with b := x } := heap_setCell_same w b 1 _ 51 (.bool x) h
theorem BoxF.set2 {w : World} {b : Nat} {f : Fr} (h : BoxF w b f) (x : Bool) : BoxF (w.setCell ⟨b, 2, none⟩ (.bool x)) b { f with c := x } := heap_setCell_same w b 2 _ 51 (.bool x) h
theorem BoxF.set3 {w : World} {b : Nat} {f : Fr} (h : BoxF w b f) (x : Bool) : BoxF (w.setCell ⟨b, 3, none⟩ (.bool x)) b { f with d := x } := heap_setCell_same w b 3 _ 51 (.bool x) h
/-- The whole frame, cell by cell. -/
theorem BoxF.setAll {w : World} {b : Nat} {f : Fr} (h : BoxF w b f) (g : Fr) :
    BoxF ((((((((w.setCell ⟨b, 0, none⟩ (.bool g.a)).setCell ⟨b, 1, none⟩ (.bool g.b)).setCell ⟨b, 2, none⟩ (.bool g.c)).setCell ⟨b, 3, none⟩ (.bool g.d)).setCell ⟨b, 4, none⟩ (.int .u8 g.t)).setCell ⟨b, 5, none⟩ (.int .u8 g.k)).setCell ⟨b, 6, none⟩ (.int .u16 g.ch)).setCell ⟨b, 7, none⟩ (.string g.p)) b g :=
  (((((((h.set0 g.a).set1 g.b).set2 g.c).set3 g.d).set4 g.t).set5 g.k).set6 g.ch).set7 g.p
theorem below_setAll {w0 w : World} {b : Nat} (h : Below w0.heap.size w0 w) (hb : w0.heap.size ≤ b) (v0 v1 v2 v3 v4 v5 v6 v7 : Value) :
    Below w0.heap.size w0 ((((((((w.setCell ⟨b, 0, none⟩ v0).setCell ⟨b, 1, none⟩ v1).setCell ⟨b, 2, none⟩ v2).setCell ⟨b, 3, none⟩ v3).setCell ⟨b, 4, none⟩ v4).setCell ⟨b, 5, none⟩ v5).setCell ⟨b, 6, none⟩ v6).setCell ⟨b, 7, none⟩ v7) :=
  below_set (below_set (below_set (below_set (below_set (below_set (below_set (below_set h hb _) hb _) hb _) hb _) hb _) hb _) hb _) hb _

def zF : Fr := ⟨false, false, false, false, 0, 0, 0, ⟨#[]⟩⟩
/-- While a frame is decoded: its box, the answer's, the reader. -/
structure DecR (w0 : World) (bf g d : Nat) (f : Fr) (s : Option (List UInt8)) (w : World) : Prop where
  f : BoxF w bf f
  r : BoxF w w0.heap.size zF
  rs : RS w g d s
  bel : Below w0.heap.size w0 w
  lo : w0.heap.size < g
  gb : g < bf
  dg : d ≤ g
section
variable {w0 w w' : World} {bf g d : Nat} {f : Fr} {s s' : Option (List UInt8)}
theorem DecR.read (h : DecR w0 bf g d f s w) (hr : RS w' g d s') (hg : w.grownBy w' (some g)) : DecR w0 bf g d f s' w' :=
  ⟨(hg.block _ h.f.lt (fun e => by have := h.gb; cases e; omega)).trans h.f, (hg.block _ h.r.lt (fun e => by have := h.lo; cases e; omega)).trans h.r, hr, h.bel.grown hg h.bel.size (fun k hk => by cases hk; exact Nat.le_of_lt h.lo), h.lo, h.gb, h.dg⟩
theorem DecR.put (h : DecR w0 bf g d f s w) (i : Nat) (u : Value) {f' : Fr} (hf : BoxF (w.setCell ⟨bf, i, none⟩ u) bf f') : DecR w0 bf g d f' s (w.setCell ⟨bf, i, none⟩ u) := by
  have hk : ∀ k, k ≠ bf → (w.setCell ⟨bf, i, none⟩ u).heap[k]? = w.heap[k]? := fun k hk => heap_setCell_other _ _ _ _ hk
  have h1 := h.lo
  have h2 := h.gb
  have h3 := h.dg
  exact ⟨hf, (hk _ (by omega)).trans h.r, h.rs.keep (by simp [World.setCell]) (hk _ (by omega)) (fun _ => hk _ (by omega)), below_set h.bel (by show w0.heap.size ≤ bf; omega) _, h1, h2, h3⟩
end

set_option maxRecDepth 100000 in
set_option maxHeartbeats 4000000 in
theorem decoded_any (A : Option Addr) (c d : Nat) (l : List UInt8) (w : World) (h : Shows w d (.slice A l.length c) l) (hl : l.length ≤ 140737488355328) (h12 : 12 ≤ l.length) :
    Calls Tryz.prog 34 #[.slice A l.length c] w fun e w' => e = .returned (.agg (decD l).vs.toArray) ∧ Below w.heap.size w w' := by
  obtain ⟨hl1, hlc, hcm⟩ := h.lens
  have HD : Hid (decD l = { a := byteAt l 0 / 8 % 2 == 1, b := byteAt l 0 / 4 % 2 == 1, c := byteAt l 0 / 2 % 2 == 1, d := byteAt l 0 % 2 == 1, t := byteAt l 1, k := byteAt l 5, ch := 256 * byteAt l 6 + byteAt l 7, p := str8 (l.drop 12) }) := Lib.hid rfl
  have n0 : numS 1 (some l) = (byteAt l 0, some (l.drop 1)) := num1_at l 0 (by omega)
  have n1 : numS 1 (some (l.drop 1)) = (byteAt l 1, some (l.drop 2)) := num1_at l 1 (by omega)
  have n2 : (takeS 3 (some (l.drop 2))).2 = some (l.drop 5) := take_at l 2 3 (by omega)
  have n5 : numS 1 (some (l.drop 5)) = (byteAt l 5, some (l.drop 6)) := num1_at l 5 (by omega)
  have n6 : numS 2 (some (l.drop 6)) = (256 * byteAt l 6 + byteAt l 7, some (l.drop 8)) := num2_at l 6 (by omega)
  have n8 : (takeS 4 (some (l.drop 8))).2 = some (l.drop 12) := take_at l 8 4 (by omega)
  have n12 : takeS ((l.drop 12).length : Nat) (some (l.drop 12)) = (l.drop 12, some []) := by
    rw [takeS_ok _ _ (Nat.le_refl _), List.take_length, List.drop_length]
  have hlen : ∀ i, (l.drop i).length ≤ 140737488355328 := fun i => by rw [List.length_drop]; omega
  have HO := Lib.hid (fun w' (hw' : Shows w' d (.slice A l.length c) l) => open_any _ _ d w' hw' hl)
  have HN := Lib.hid (fun g d' s q w h hb => num_any g d' s q w h hb)
  have HT := Lib.hid (fun g d' s n w h hb => take_any g d' s n w h hb)
  have HSH := Lib.hid h
  have HLEN := Lib.hid hlen
  have N0 := Lib.hid n0
  have N1 := Lib.hid n1
  have N2 := Lib.hid n2
  have N5 := Lib.hid n5
  have N6 := Lib.hid n6
  have N8 := Lib.hid n8
  have N12 := Lib.hid n12
  have b0 := byteAt_lt l 0
  have b1 := byteAt_lt l 1
  have b5 := byteAt_lt l 5
  have b6 := byteAt_lt l 6
  have b7 := byteAt_lt l 7
  clear n0 n1 n2 n5 n6 n8 n12 hlen h
  generalize byteAt l 0 = x0 at *
  generalize byteAt l 1 = x1 at *
  generalize byteAt l 5 = x5 at *
  generalize byteAt l 6 = x6 at *
  generalize byteAt l 7 = x7 at *
  have u0 : IntKind.u8.wrap (x0 : Int) = (x0 : Int) := by rw [IntKind.wrap_u8]; omega
  have u1 : IntKind.u8.wrap (x1 : Int) = (x1 : Int) := by rw [IntKind.wrap_u8]; omega
  have u5 : IntKind.u8.wrap (x5 : Int) = (x5 : Int) := by rw [IntKind.wrap_u8]; omega
  obtain ⟨z, hz⟩ : ∃ z, z = 256 * x6 + x7 := ⟨_, rfl⟩
  have hzb : z < 65536 := by omega
  have u6 : IntKind.u16.wrap (z : Int) = (z : Int) := by rw [IntKind.wrap_u16]; omega
  rw [← hz] at N6
  rw [← hz] at HD
  clear hz
  obtain ⟨fa, fb, fc, fd⟩ := flag_bits x0 b0
  have ga : (bits .and .u8 (x0 : Int) 8 != 0) = (x0 &&& 8 != 0) := flag_bit x0 8 b0 (by decide)
  have gb : (bits .and .u8 (x0 : Int) 4 != 0) = (x0 &&& 4 != 0) := flag_bit x0 4 b0 (by decide)
  have gc : (bits .and .u8 (x0 : Int) 2 != 0) = (x0 &&& 2 != 0) := flag_bit x0 2 b0 (by decide)
  have gd : (bits .and .u8 (x0 : Int) 1 != 0) = (x0 &&& 1 != 0) := flag_bit x0 1 b0 (by decide)
  rw [fa] at ga
  rw [fb] at gb
  rw [fc] at gc
  rw [fd] at gd
  clear fa fb fc fd
  generalize (x0 / 8 % 2 == 1) = qa at *
  generalize (x0 / 4 % 2 == 1) = qb at *
  generalize (x0 / 2 % 2 == 1) = qc at *
  generalize (x0 % 2 == 1) = qd at *
  obtain ⟨W0, hW0⟩ : ∃ W0, W0 = w.alloc (Obj.cells #[.bool false, .bool false, .bool false, .bool false, .int .u8 0, .int .u8 0, .int .u16 0, .string ⟨#[]⟩] 51) := ⟨_, rfl⟩
  have hB0 : Below w.heap.size w W0 := by rw [hW0]; exact f_below_box _ _
  have hR0 : BoxF W0 w.heap.size ⟨false, false, false, false, 0, 0, 0, ⟨#[]⟩⟩ := by rw [hW0]; exact BoxF.new w ⟨false, false, false, false, 0, 0, 0, ⟨#[]⟩⟩
  have HR0 := Lib.hid hR0
  clear hR0
  go_enter Tryz.func34, Tryz.ntmps34
  go_upto_region 1 with fail
  rw [← hW0]
  clear hW0
  go_wp2_with fail
  refine (HO.out _ (HSH.out.keep hB0.size (fun hp => hB0.block _ (HSH.out.lt hp)))).mono ?_
  rintro e w1 ⟨g, d1, rfl, hr1, hg1, hd1, hb1⟩
  have hB1 := hB0.trans (hb1.mono hB0.size)
  have hs1 := hB0.size
  have HN1 := Lib.hid (HN.out g d1 (some l) 1 w1 hr1 hl)
  rw [N0.out] at HN1
  have HR1 := Lib.hid (HR0.out.kept hb1 (Nat.le_refl _))
  clear hr1
  go_wp2_with fail
  refine HN1.out.mono ?_
  rintro e w2 ⟨rfl, hr2, hg2⟩
  go_upto_region 4 with fail
  obtain ⟨W3, hW3⟩ : ∃ W3, W3 = w2.alloc (Obj.cells #[.bool qa, .bool qb, .bool qc, .bool qd, .int .u8 0, .int .u8 0, .int .u16 0, .string ⟨#[]⟩] 51) := ⟨_, rfl⟩
  have hlo : w.heap.size < g := Nat.lt_of_lt_of_le HR0.out.lt hg1
  have hgl := hr2.lt
  have hb23 : Below w2.heap.size w2 W3 := by rw [hW3]; exact f_below_box _ _
  have hB2 := hB1.grown hg2 hB1.size (fun k hk => by cases hk; exact Nat.le_of_lt hlo)
  have HD3 : Hid (DecR w w2.heap.size g d1 ⟨qa, qb, qc, qd, 0, 0, 0, ⟨#[]⟩⟩ (some (l.drop 1)) W3) := Lib.hid ⟨by rw [hW3]; exact BoxF.new w2 ⟨qa, qb, qc, qd, 0, 0, 0, ⟨#[]⟩⟩, (hb23.block _ (by omega)).trans ((hg2.block _ HR1.out.lt (fun e => by cases e; omega)).trans HR1.out), hr2.keep hb23.size (hb23.block _ hgl) (fun hd => hb23.block _ hd), hB2.trans (hb23.mono hB2.size), hlo, hgl, hd1.2⟩
  rw [← hW3]
  have HW3 := Lib.hid hW3
  clear hW3 hr2 hg2 hb23 hB2 hB1 HR1 hb1 hB0 hs1
  -- the type
  have HN3 := Lib.hid (HN.out g d1 _ 1 W3 HD3.out.rs (HLEN.out 1))
  rw [N1.out] at HN3
  go_wp2_with fail
  refine HN3.out.mono ?_
  rintro e w4 ⟨rfl, hr4, hg4⟩
  have hD4 := HD3.out.read hr4 hg4
  have f4 := hD4.f.fr 4
  have k4 := hD4.f.c4
  have HD4 := Lib.hid (hD4.put 4 (.int .u8 x1) (hD4.f.set4 x1))
  clear hr4 hg4 hD4
  go_upto_region 5 with fail
  clear f4 k4
  generalize w4.setCell ⟨w2.heap.size, 4, none⟩ (.int .u8 x1) = w5 at *
  have HT5 := Lib.hid (HT.out g d1 _ 3 w5 HD4.out.rs (HLEN.out 2))
  rw [N2.out] at HT5
  go_wp2_with fail
  refine HT5.out.mono ?_
  rintro e w6 ⟨v6, rfl, ho6, hr6, hg6⟩
  have HD6 := Lib.hid (HD4.out.read hr6 hg6)
  clear ho6 hr6 hg6
  -- the track
  have HN6 := Lib.hid (HN.out g d1 _ 1 w6 HD6.out.rs (HLEN.out 5))
  rw [N5.out] at HN6
  go_wp2_with fail
  refine HN6.out.mono ?_
  rintro e w7 ⟨rfl, hr7, hg7⟩
  have hD7 := HD6.out.read hr7 hg7
  have f5 := hD7.f.fr 5
  have k5 := hD7.f.c5
  have HD7 := Lib.hid (hD7.put 5 (.int .u8 x5) (hD7.f.set5 x5))
  clear hr7 hg7 hD7
  go_upto_region 7 with fail
  clear f5 k5
  generalize w7.setCell ⟨w2.heap.size, 5, none⟩ (.int .u8 x5) = w8 at *
  have HN8 := Lib.hid (HN.out g d1 _ 2 w8 HD7.out.rs (HLEN.out 6))
  rw [N6.out] at HN8
  go_wp2_with fail
  refine HN8.out.mono ?_
  rintro e w9 ⟨rfl, hr9, hg9⟩
  have hD9 := HD7.out.read hr9 hg9
  have f6 := hD9.f.fr 6
  have k6 := hD9.f.c6
  have HD9 := Lib.hid (hD9.put 6 (.int .u16 z) (hD9.f.set6 z))
  clear hr9 hg9 hD9
  go_upto_region 8 with fail
  clear f6 k6
  generalize w9.setCell ⟨w2.heap.size, 6, none⟩ (.int .u16 z) = w10 at *
  have HT10 := Lib.hid (HT.out g d1 _ 4 w10 HD9.out.rs (HLEN.out 8))
  rw [N8.out] at HT10
  go_wp2_with fail
  refine HT10.out.mono ?_
  rintro e w11 ⟨v11, rfl, ho11, hr11, hg11⟩
  have HD11 := Lib.hid (HD9.out.read hr11 hg11)
  clear ho11 hr11 hg11
  -- the payload
  have HL := Lib.hid (left_some g d1 _ w11 HD11.out.rs)
  go_wp2_with fail
  refine HL.out.mono ?_
  rintro e w12 ⟨rfl, rfl⟩
  have HT12 := Lib.hid (HT.out g d1 _ ((l.drop 12).length : Nat) w11 HD11.out.rs (HLEN.out 12))
  rw [N12.out] at HT12
  generalize l.drop 12 = pl at *
  go_wp2_with fail
  refine HT12.out.mono ?_
  rintro e w13 ⟨v13, rfl, ho13, hr13, hg13⟩
  obtain ⟨gv, _, hsv⟩ := ho13.shows
  have hcv := conv_at hsv
  have hD13 := HD11.out.read hr13 hg13
  have f7 := hD13.f.fr 7
  have k7 := hD13.f.c7
  have HD13 := Lib.hid (hD13.put 7 (.string (str8 pl)) (hD13.f.set7 (str8 pl)))
  clear hr13 hg13 hD13 hsv ho13
  go_upto_region 10 with fail
  clear f7 k7 hcv
  generalize w13.setCell ⟨w2.heap.size, 7, none⟩ (.string (str8 pl)) = w14 at *
  have hDD := HD13.out
  have y0 := hDD.f.c0
  have y1 := hDD.f.c1
  have y2 := hDD.f.c2
  have y3 := hDD.f.c3
  have y4 := hDD.f.c4
  have y5 := hDD.f.c5
  have y6 := hDD.f.c6
  have y7 := hDD.f.c7
  have fz := hDD.r.fr
  have r0 := hDD.r.c0
  have r1 := hDD.r.c1
  have r2 := hDD.r.c2
  have r3 := hDD.r.c3
  have r4 := hDD.r.c4
  have r5 := hDD.r.c5
  have r6 := hDD.r.c6
  have r7 := hDD.r.c7
  have RR := Lib.hid (hDD.r.setAll ⟨qa, qb, qc, qd, x1, x5, z, str8 pl⟩)
  clear hDD
  go_wp2_with fail
  refine bodyPost_ret (results_cell_row rfl _ _ w.heap.size 51 _ (0, 0) _ rfl RR.out Tryz.underlying51 rfl (by kernel_rfl)) rfl ⟨?_, ?_⟩
  · rw [HD.out]; rfl
  · exact below_setAll HD13.out.bel (Nat.le_refl _) _ _ _ _ _ _ _ _

end Go.Proofs.YtdjahdnaihijjaaGreatDoor
