/-
  The contracts of slices.Grow at the nil slice and of slices.Concat, for bytes.
  Conditions: at most 2^40 bytes.
-/
import Derived.Lib.AppendZeros
import Derived.Laws.BitsAllLaws
import Derived.Test.YtnafibnhmhbfiaaPZ
import Derived.Test.YtnafibnhmhbfiaaBigZ
import Derived.Test.YtnafibnhmhbfiaaOctAZ
namespace Go.Proofs.Ytnafibnhmhbfiaa
open Go.RowKit
set_option linter.unusedVariables false
set_option linter.unusedSimpArgs false

theorem info8 : (Try.prog.info? 5).map (fun i => (i.zero, i.size, i.bytes)) = some (some (.int .u8 0), 1, 1) := by kernel_rfl
set_option maxRecDepth 100000 in
set_option maxHeartbeats 800000 in
theorem grow8_nil (m : Nat) (w : World) (hm : m ≤ 1099511627776) :
    Calls Try.prog 59 #[.slice none 0 0, .int .i64 m] w fun e w' => ∃ v, e = .returned v ∧ Own 5 w' w.heap.size v [] ∧ Below w.heap.size w w' := by
  have h1 : ¬ ((m : Int) < 0) := by omega
  by_cases h0 : m = 0
  · subst h0
    go_enter Try.func59, Try.ntmps59
    go_wp2_with fail
    go_ret
    exact ⟨_, rfl, Own.nil_ _ _ _, Below.refl _ _⟩
  · obtain ⟨i, hi0, hz, hs1, hb1⟩ := info_parts info8
    have hrz : ∀ ty, (Builtin.append_ #[46, 3] ty #[.slice none 0 0, .int .i64 (m : Int)]).run Try.prog w = .ok (.slice (some ⟨w.heap.size, 0, none⟩) m (grownCap w m 0 5)) (w.drew.alloc (.cells (Builtin.zeroCells (Value.int .u8 0).cells m ++ Builtin.zeroCells (Value.int .u8 0).cells (grownCap w m 0 5 - m)) 5)) := fun ty =>
      Lib.run_append_nil_zeros w 46 3 ty 5 i _ .i64 .i64 Try.underlying46 Try.underlying3 hi0 hz m (by omega) (by rw [hs1]; decide) (by omega) (by rw [hb1]; omega)
    have hG1 : m ≤ grownCap w m 0 5 := grownCap_ge w _ _ _
    have hG2 := grownCap_le_maxLen w m 0 5 (by unfold maxLen; omega)
    generalize grownCap w m 0 5 = G at *
    have hp : (0 : Int) < (m : Int) := by omega
    have HM := Lib.hid hG2
    clear hG2
    go_enter Try.func59, Try.ntmps59
    go_wp2_with (at_builtin; refine Lib.wpList_append_run _ rfl _ _ _ _ rfl _ _ rfl rfl _ _ (hrz _) ?_)
    all_goals
      go_ret
      exact ⟨_, rfl, World.ownsRow_made _ _ G (Nat.le_refl _) HM.out (by rw [Array.size_append, size_zeroCells, size_zeroCells, ← Nat.add_mul, show m + (G - m) = G by omega]; rfl), ((Below.refl _ _).drew).alloc (Nat.le_refl _) _⟩

/-- A slice as it lies in a slice of slices: its address, its capacity, the block where it shows its list, the list. -/
abbrev Part8 := Option Addr × Nat × Nat × List UInt8
def partC8 : Code Part8 := { enc := fun p => [.slice p.1 p.2.2.2.length p.2.1], sz := 1, len := fun _ => rfl, one := fun x u hu => by simp at hu; subst hu; rfl, pos := by omega }
def cat8 (ps : List Part8) : List UInt8 := ps.flatMap fun p => p.2.2.2
theorem cat8_take (ps : List Part8) (k : Nat) (h : k < ps.length) : cat8 (ps.take (k + 1)) = cat8 (ps.take k) ++ ps[k].2.2.2 := by
  unfold cat8
  rw [List.take_succ_eq_append_getElem h, List.flatMap_append]
  simp
theorem cat8_take_le (ps : List Part8) (k : Nat) : (cat8 (ps.take k)).length ≤ (cat8 ps).length := by
  have : cat8 ps = cat8 (ps.take k) ++ cat8 (ps.drop k) := by
    unfold cat8
    rw [← List.flatMap_append, List.take_append_drop]
  rw [this, List.length_append]
  omega

set_option maxRecDepth 100000 in
set_option maxHeartbeats 1600000 in
theorem concat8_any (A : Option Addr) (c n D : Nat) (ps : List Part8) (w : World) (hn : ps.length = n) (hl : ShowsG partC8 w D (.slice A n c) ps) (hp : ∀ p ∈ ps, Shows w p.2.2.1 (.slice p.1 p.2.2.2.length p.2.1) p.2.2.2) (hb : (cat8 ps).length ≤ 1099511627776) :
    Calls Try.prog 27 #[.slice A n c] w fun e w' => ∃ v, e = .returned v ∧ Own 5 w' w.heap.size v (cat8 ps) ∧ Below w.heap.size w w' := by
  subst hn
  have HP := Lib.hid hp
  clear hp
  have hn63 : (ps.length : Int) ≤ 9223372036854775807 := by
    obtain ⟨_, _, h⟩ := hl.lens
    have : ps.length ≤ maxLen := by omega
    unfold maxLen at this
    omega
  go_enter Try.func27, Try.ntmps27
  go_wp2_with fail
  go_loop [3, 11] (fun s i => ∃ k : Nat, k ≤ ps.length ∧ i = .int .i64 k ∧ s = .int .i64 ((cat8 (ps.take k)).length : Nat)) (fun _ i => ps.length - (intOf i).toNat)
  case atStart => exact ⟨0, Nat.zero_le _, rfl, rfl⟩
  case round =>
    obtain ⟨k, hk, rfl, rfl⟩ := hrel
    by_cases hlt : k < ps.length
    · obtain ⟨o, rfl, _, hcl⟩ := hl.at_ (by omega)
      have cc : w.cell? ⟨D, o + k, none⟩ = some (.slice ps[k].1 ps[k].2.2.2.length ps[k].2.1) := by simpa [partC8] using hcl k hlt 0 (by decide)
      have h1 := cat8_take_le ps (k + 1)
      have h2 := cat8_take ps k hlt
      have h3 := congrArg List.length h2
      rw [List.length_append] at h3
      have HT := Lib.hid h3
      generalize (cat8 (ps.take k)).length = s at *
      generalize ps[k].2.2.2.length = m at *
      generalize ps[k].1 = A1 at *
      generalize ps[k].2.1 = c1 at *
      have hsm : s + m ≤ 1099511627776 := by omega
      have hneg : ¬ ((s : Int) + (m : Int) < 0) := by omega
      clear h1 h2 h3 hcl hl
      go_wp2_with fail
      go_round
      case rel => exact ⟨k + 1, by omega, by go_num, by rw [HT.out]; go_num⟩
      case measure => simp [intOf]; omega
    · rw [List.take_of_length_le (by omega)]
      have hgr := Lib.hid (fun w' => grow8_nil (cat8 ps).length w' (by omega))
      go_wp2_with (go_at_call 59; refine (hgr.out _).mono ?_; rintro e w1 ⟨v, rfl, ho, hb1⟩)
      go_loopw [6, 27] (fun s i wr => ∃ k : Nat, k ≤ ps.length ∧ i = .int .i64 k ∧ Own 5 wr w.heap.size s (cat8 (ps.take k)) ∧ Below w.heap.size w wr) (fun _ i _ => ps.length - (intOf i).toNat)
      case atStart => exact ⟨0, Nat.zero_le _, rfl, ho, hb1⟩
      case round =>
        rename World => x
        obtain ⟨k, hk, rfl, ho, hbw⟩ := hrel
        by_cases hlt : k < ps.length
        · obtain ⟨o, rfl, _, hcl⟩ := (hl.below' hbw (Nat.le_refl _)).at_ (by omega)
          have cc : x.cell? ⟨D, o + k, none⟩ = some (.slice ps[k].1 ps[k].2.2.2.length ps[k].2.1) := by simpa [partC8] using hcl k hlt 0 (by decide)
          have h1 := cat8_take_le ps (k + 1)
          have h2 := cat8_take ps k hlt
          rw [h2, List.length_append] at h1
          have HT := Lib.hid h2
          have hsh0 := HP.out ps[k] (List.getElem_mem hlt)
          have hsh := Lib.hid (hsh0.keep hbw.size (fun hp => hbw.block _ (hsh0.lt hp)))
          generalize ps[k].2.2.2 = m at *
          generalize ps[k].2.2.1 = d1 at *
          generalize ps[k].1 = A1 at *
          generalize ps[k].2.1 = c1 at *
          have hx := hbw.size
          clear h2 hcl hsh0
          go_wp2_with (at_builtin
                       refine wpList_append8 _ rfl (.tmp 31) (.tmp 32) 46 rfl w.heap.size 5 Try.underlying46 info8 _ _ rfl ho d1 _ m rfl hsh.out (by omega) hx ?_
                       intro v4 w4 ho4 hg4)
          go_roundw
          case rel => exact ⟨k + 1, by omega, by go_num, by rw [HT.out]; exact ho4, hbw.grown hg4 hx (fun q hq => (ho.block q hq).1)⟩
          case measure => simp [intOf]; omega
        · rw [List.take_of_length_le (by omega)] at ho
          go_wp2_with fail
          go_ret
          exact ⟨_, rfl, ho, hbw⟩

end Go.Proofs.Ytnafibnhmhbfiaa
