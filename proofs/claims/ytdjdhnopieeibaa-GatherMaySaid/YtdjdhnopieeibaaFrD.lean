/-
  The contracts of frame.isStart and of the document's own Well.
  Conditions: none but sizes.
-/
import Derived.Test.YtdjdhnopieeibaaFrC
import Derived.Deep.CutRange
namespace Go.Proofs.Ytdjdhnopieeibaa
open Go.RowKit
set_option linter.unusedVariables false
set_option linter.unusedSimpArgs false

/-- The byte before. -/
def prevAt (l : List UInt8) (k : Nat) : Nat := if k = 0 then 0 else byteAt l (k - 1)
theorem prevAt_lt (l : List UInt8) (k : Nat) : prevAt l k < 256 := by
  unfold prevAt
  split
  · decide
  · exact byteAt_lt _ _

theorem shows_byte {w : World} {d o : Nat} {l : List UInt8} (h : ∀ j (h : j < l.length), w.cell? ⟨d, o + j, none⟩ = some (u8c l[j])) {k : Nat} (hk : k < l.length) : w.cell? ⟨d, o + k, none⟩ = some (.int .u8 (byteAt l k)) := by
  rw [h k hk]
  show some (Value.int .u8 ((l[k]).toNat : Int)) = _
  rw [byteAt_get hk]

set_option maxRecDepth 100000 in
set_option maxHeartbeats 4000000 in
theorem start_any (A : Option Addr) (c d : Nat) (l : List UInt8) (rv : Value) (w : World) (h : Shows w d (.slice A l.length c) l) (hl : l.length ≤ 140737488355328) (hr : Rules w rv) :
    Calls Try.prog 44 #[.slice A l.length c, rv] w fun e w' => e = .returned (.bool (wellD l)) ∧ w = w' := by
  obtain ⟨rb, ps, rfl, hrb, hps, hcr⟩ := hr
  obtain ⟨hl1, hlc, hcm⟩ := h.lens
  obtain ⟨m, hm⟩ : ∃ m, m = min l.length 12 := ⟨_, rfl⟩
  have hmin : (if (12 : Int) < (l.length : Int) then (12 : Int) else (l.length : Int)) = (m : Int) := by split <;> omega
  have hm1 : m ≤ l.length := by omega
  have hm2 : m ≤ 12 := by omega
  have hmc : m ≤ c := by omega
  have HM := Lib.hid hm
  have HCR := Lib.hid hcr
  have HW := Lib.hid (wellD_iff l)
  have HN := Lib.hid (fun i h1 h2 h => wellD_no (l := l) (i := i) h1 h2 h)
  have HS := Lib.hid (fun (hp : 0 < l.length) => h.at_ hp)
  generalize hwd : wellD l = wd at *
  have HWD := Lib.hid hwd
  clear hm hcr h hwd
  go_enter Try.func44, Try.ntmps44
  go_wp2_with fail
  clear hmin
  go_loop [5, 16] (fun p i => ∃ k : Nat, k ≤ m ∧ p = .int .u8 (prevAt l k) ∧ i = .int .i64 k ∧ ∀ j, j < k → okAt l j = true) (fun _ i => m - (intOf i).toNat)
  case atStart => exact ⟨0, Nat.zero_le _, rfl, rfl, fun j h => absurd h (Nat.not_lt_zero _)⟩
  case round =>
    obtain ⟨k, hk, rfl, rfl, hok⟩ := hrel
    by_cases hlt : k < m
    · obtain ⟨o, rfl, _, hcl⟩ := HS.out (by omega)
      have hcc := shows_byte hcl (k := k) (by omega)
      obtain ⟨hr1, hr2⟩ := HCR.out k (by omega)
      have hb := byteAt_lt l k
      have hpv := prevAt_lt l k
      have hprev : prevAt l (k + 1) = byteAt l k := by simp [prevAt]
      have HP := Lib.hid hprev
      have h12 : (k : Int) < 12 := by omega
      have hkm : (k : Int) < (m : Int) := by omega
      by_cases hk3 : k = 3
      case pos =>
        rw [if_pos hk3] at hr1
        have hsz : okAt l k = decide (12 ≤ 256 * prevAt l k + byteAt l k ∧ 256 * prevAt l k + byteAt l k ≤ 4096) := by subst hk3; rfl
        have HC := Lib.hid (length_any (prevAt l k) (byteAt l k) w hpv hb)
        rw [← hsz] at HC
        clear hsz hr2 hprev hk3
        cases ho : okAt l k with
        | true =>
          rw [ho] at HC
          have HOK : Hid (∀ j, j < k + 1 → okAt l j = true) := Lib.hid (fun j hj => by
            by_cases hj2 : j < k
            · exact hok j hj2
            · obtain rfl : j = k := by omega
              exact ho)
          clear hok ho hcl
          generalize prevAt l k = pv at *
          generalize byteAt l k = by_ at *
          go_wp2_with fail
          refine HC.out.mono ?_
          rintro e w1 ⟨rfl, rfl⟩
          go_wp2_with fail
          go_round
          case rel => exact ⟨k + 1, by omega, by rw [HP.out], by go_num, HOK.out⟩
          case measure => simp [intOf]; omega
        | false =>
          have hfin := HN.out k (by omega) (by omega) ho
          have HF := Lib.hid hfin
          rw [ho] at HC
          clear hok ho hcl hfin
          generalize prevAt l k = pv at *
          generalize byteAt l k = by_ at *
          go_wp2_with fail
          refine HC.out.mono ?_
          rintro e w1 ⟨rfl, rfl⟩
          go_wp2_with fail
          go_ret
          exact ⟨by rw [HF.out]; rfl, rfl⟩
      case neg =>
        rw [if_neg hk3] at hr1
        have hsz : okAt l k = decide (byteAt l k ≤ mostAt k) := by unfold okAt; rw [if_neg hk3]
        have HC := Lib.hid (rule_any (prevAt l k) (byteAt l k) (mostAt k) (ps k) w hr2)
        rw [← hsz] at HC
        clear hsz hr2 hprev hk3
        cases ho : okAt l k with
        | true =>
          rw [ho] at HC
          have HOK : Hid (∀ j, j < k + 1 → okAt l j = true) := Lib.hid (fun j hj => by
            by_cases hj2 : j < k
            · exact hok j hj2
            · obtain rfl : j = k := by omega
              exact ho)
          clear hok ho hcl
          generalize prevAt l k = pv at *
          generalize byteAt l k = by_ at *
          go_wp2_with fail
          refine HC.out.mono ?_
          rintro e w1 ⟨rfl, rfl⟩
          go_wp2_with fail
          go_round
          case rel => exact ⟨k + 1, by omega, by rw [HP.out], by go_num, HOK.out⟩
          case measure => simp [intOf]; omega
        | false =>
          have hfin := HN.out k (by omega) (by omega) ho
          have HF := Lib.hid hfin
          rw [ho] at HC
          clear hok ho hcl hfin
          generalize prevAt l k = pv at *
          generalize byteAt l k = by_ at *
          go_wp2_with fail
          refine HC.out.mono ?_
          rintro e w1 ⟨rfl, rfl⟩
          go_wp2_with fail
          go_ret
          exact ⟨by rw [HF.out]; rfl, rfl⟩
    · have hkm : ¬ (k : Int) < (m : Int) := by omega
      have hfin : wd = true := HW.out.2 (fun i h1 h2 => hok i (by have := HM.out; omega))
      clear hok
      have HF := Lib.hid hfin
      clear hfin
      go_wp2_with fail
      go_ret
      exact ⟨by rw [HF.out]; rfl, rfl⟩

theorem wraps_two (x y z : Nat) (hx : x < 256) (hy : y < 256) (hz : z = 256 * x + y) : IntKind.i64.wrap (x : Int) = (x : Int) ∧ IntKind.i64.wrap (y : Int) = (y : Int) ∧ IntKind.i64.wrap (256 * (x : Int)) = 256 * (x : Int) ∧ IntKind.i64.wrap (256 * (x : Int) + (y : Int)) = (z : Int) ∧
    wrap64 (x : Int) = (x : Int) ∧ wrap64 (y : Int) = (y : Int) ∧ wrap64 (256 * (x : Int)) = 256 * (x : Int) ∧ wrap64 (256 * (x : Int) + (y : Int)) = (z : Int) :=
  ⟨by rw [IntKind.wrap_i64]; omega, by rw [IntKind.wrap_i64]; omega, by rw [IntKind.wrap_i64]; omega, by rw [IntKind.wrap_i64]; omega, w64_id _ (by omega) (by omega), w64_id _ (by omega) (by omega), w64_id _ (by omega) (by omega), by rw [w64_id _ (by omega) (by omega)]; omega⟩
theorem most_le (l : List UInt8) {k : Nat} (h : okAt l k = true) : k = 3 ∨ byteAt l k ≤ mostAt k := by
  unfold okAt at h
  split at h
  · exact .inl (by assumption)
  · exact .inr (by simpa using h)
theorem most_le2 (l : List UInt8) (k : Nat) (hk : k ≠ 3) : okAt l k = decide (byteAt l k ≤ mostAt k) := by unfold okAt; rw [if_neg hk]

end Go.Proofs.Ytdjdhnopieeibaa
