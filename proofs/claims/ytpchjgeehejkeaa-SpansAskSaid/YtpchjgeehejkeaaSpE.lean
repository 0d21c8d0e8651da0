/-
  The contracts of slices.Concat at lists of spans, of checked, Both and Either, changed, Add and Cut.
  Conditions: the numbers are of 32 bits; at most 2^36 spans.
-/
import Derived.Test.YtpchjgeehejkeaaSpD
namespace Go.Proofs.Ytpchjgeehejkeaa
open Go.RowKit
set_option linter.unusedVariables false
set_option linter.unusedSimpArgs false

/-- A slice as it lies in a slice of slices: its address, its capacity, the block where it shows its list, the list. -/
abbrev Part := Option Addr × Nat × Nat × List Sp
def partC : Code Part := { enc := fun p => [.slice p.1 p.2.2.2.length p.2.1], sz := 1, len := fun _ => rfl, one := fun x u hu => by simp at hu; subst hu; rfl, pos := by omega }
def cat (ps : List Part) : List Sp := ps.flatMap fun p => p.2.2.2
theorem cat_take (ps : List Part) (k : Nat) (h : k < ps.length) : cat (ps.take (k + 1)) = cat (ps.take k) ++ ps[k].2.2.2 := by
  unfold cat
  rw [List.take_succ_eq_append_getElem h, List.flatMap_append]
  simp
theorem cat_take_le (ps : List Part) (k : Nat) : (cat (ps.take k)).length ≤ (cat ps).length := by
  have : cat ps = cat (ps.take k) ++ cat (ps.drop k) := by
    unfold cat
    rw [← List.flatMap_append, List.take_append_drop]
  rw [this, List.length_append]
  omega

set_option maxHeartbeats 1600000 in
theorem concat_any (A : Option Addr) (c n D : Nat) (ps : List Part) (w : World) (hn : ps.length = n) (hl : ShowsG partC w D (.slice A n c) ps) (hp : ∀ p ∈ ps, ShowsG spanC w p.2.2.1 (.slice p.1 p.2.2.2.length p.2.1) p.2.2.2) (hb : (cat ps).length ≤ 17592186044416) :
    Calls Try.prog 48 #[.slice A n c] w fun e w' => ∃ v, e = .returned v ∧ OwnG spanC 37 w' w.heap.size v (cat ps) ∧ Below w.heap.size w w' := by
  subst hn
  have HP := Lib.hid hp
  clear hp
  have hn63 : (ps.length : Int) ≤ 9223372036854775807 := by
    obtain ⟨_, _, h⟩ := hl.lens
    have : ps.length ≤ maxLen := by omega
    unfold maxLen at this
    omega
  go_enter Try.func48, Try.ntmps48
  go_wp2_with fail
  go_loop [3, 11] (fun s i => ∃ k : Nat, k ≤ ps.length ∧ i = .int .i64 k ∧ s = .int .i64 ((cat (ps.take k)).length : Nat)) (fun _ i => ps.length - (intOf i).toNat)
  case atStart => exact ⟨0, Nat.zero_le _, rfl, rfl⟩
  case round =>
    obtain ⟨k, hk, rfl, rfl⟩ := hrel
    by_cases hlt : k < ps.length
    · obtain ⟨o, rfl, _, hcl⟩ := hl.at_ (by omega)
      have cc : w.cell? ⟨D, o + k, none⟩ = some (.slice ps[k].1 ps[k].2.2.2.length ps[k].2.1) := by simpa [partC] using hcl k hlt 0 (by decide)
      have h1 := cat_take_le ps (k + 1)
      have h2 := cat_take ps k hlt
      have h3 := congrArg List.length h2
      rw [List.length_append] at h3
      have HT := Lib.hid h3
      generalize (cat (ps.take k)).length = s at *
      generalize ps[k].2.2.2.length = m at *
      generalize ps[k].1 = A1 at *
      generalize ps[k].2.1 = c1 at *
      have hsm : s + m ≤ 17592186044416 := by omega
      have hneg : ¬ ((s : Int) + (m : Int) < 0) := by omega
      clear h1 h2 h3 hcl hl
      go_wp2_with fail
      go_round
      case rel => exact ⟨k + 1, by omega, by go_num, by rw [HT.out]; go_num⟩
      case measure => simp [intOf]; omega
    · rw [List.take_of_length_le (by omega)]
      have hgr := Lib.hid (fun w' => grow_nil (cat ps).length w' (by omega))
      go_wp2_with (go_at_call 59; refine (hgr.out _).mono ?_; rintro e w1 ⟨v, rfl, ho, hb1⟩)
      go_loopw [6, 27] (fun s i wr => ∃ k : Nat, k ≤ ps.length ∧ i = .int .i64 k ∧ OwnG spanC 37 wr w.heap.size s (cat (ps.take k)) ∧ Below w.heap.size w wr) (fun _ i _ => ps.length - (intOf i).toNat)
      case atStart => exact ⟨0, Nat.zero_le _, rfl, ho, hb1⟩
      case round =>
        rename World => x
        obtain ⟨k, hk, rfl, ho, hbw⟩ := hrel
        by_cases hlt : k < ps.length
        · obtain ⟨o, rfl, _, hcl⟩ := (hl.below' hbw (Nat.le_refl _)).at_ (by omega)
          have cc : x.cell? ⟨D, o + k, none⟩ = some (.slice ps[k].1 ps[k].2.2.2.length ps[k].2.1) := by simpa [partC] using hcl k hlt 0 (by decide)
          have h1 := cat_take_le ps (k + 1)
          have h2 := cat_take ps k hlt
          rw [h2, List.length_append] at h1
          have HT := Lib.hid h2
          have hsh := Lib.hid ((HP.out ps[k] (List.getElem_mem hlt)).below' hbw (Nat.le_refl _))
          generalize ps[k].2.2.2 = m at *
          generalize ps[k].2.2.1 = d1 at *
          generalize ps[k].1 = A1 at *
          generalize ps[k].2.1 = c1 at *
          have hx := hbw.size
          clear h2 hcl
          go_wp2_with (at_builtin
                       refine wpList_appendG spanC _ rfl (.tmp 31) (.tmp 32) 22 rfl w.heap.size 37 (.agg #[.int .u32 0, .int .u32 0]) 8 Try.underlying22 infoSpan rfl _ _ rfl ho d1 _ m rfl hsh.out (by omega) (by omega) hx ?_
                       intro v4 w4 ho4 hg4)
          go_roundw
          case rel => exact ⟨k + 1, by omega, by go_num, by rw [HT.out]; exact ho4, hbw.grown hg4 hx (fun q hq => (ho.block q hq).1)⟩
          case measure => simp [intOf]; omega
        · rw [List.take_of_length_le (by omega)] at ho
          go_wp2_with fail
          go_ret
          exact ⟨_, rfl, ho, hbw⟩

/-- What Both and Either answer. -/
def PairSaid (mode : Nat) (a b : List Sp) (n1 n2 : Nat) (v : Value) (code : Int) (r : List Sp) : Prop :=
  (canon a ∧ canon b ∧ code = 0 ∧ canon r ∧ (∀ n, memS r n ↔ opM mode a b n) ∧ u32s r ∧ r.length ≤ 2 * (n1 + n2)) ∨ (¬ (canon a ∧ canon b) ∧ code = 30 ∧ r = [] ∧ v = .slice none 0 0)

set_option maxHeartbeats 800000 in
theorem checked_any (A1 A2 : Option Addr) (c1 c2 n1 n2 d1 d2 mode g : Nat) (a b : List Sp) (w : World) (hn1 : a.length = n1) (hn2 : b.length = n2) (h1 : ShowsG spanC w d1 (.slice A1 n1 c1) a) (h2 : ShowsG spanC w d2 (.slice A2 n2 c2) b) (hu1 : u32s a) (hu2 : u32s b)
    (hb1 : n1 ≤ 68719476736) (hb2 : n2 ≤ 68719476736) (hk : Keeps mode g) (eg : ∀ args w, (callFunc g args).run Try.prog w = .ok (.enter g args) w) :
    Calls Try.prog 35 #[.slice A1 n1 c1, .slice A2 n2 c2, .func (.func g) #[] #[]] w fun e w' => ∃ v code r, e = .returned (.tuple #[v, .int .i64 code]) ∧ OwnG spanC 37 w' w.heap.size v r ∧ Below w.heap.size w w' ∧ PairSaid mode a b n1 n2 v code r := by
  have hr1 := Lib.hid (right_any A1 c1 n1 d1 a w hn1 h1 hu1 (by omega))
  have hr2 := Lib.hid (fun w' (hb' : Below w.heap.size w w') => right_any A2 c2 n2 d2 b w' hn2 (h2.below' hb' (Nat.le_refl _)) hu2 (by omega))
  by_cases ha : canon a
  · rw [show decide (canon a) = true by simpa using ha] at hr1
    by_cases hb : canon b
    · rw [show decide (canon b) = true by simpa using hb] at hr2
      have hc := Lib.hid (fun w' (hb' : Below w.heap.size w w') => combined_any A1 A2 c1 c2 n1 n2 d1 d2 mode g a b w' hn1 hn2 (h1.below' hb' (Nat.le_refl _)) (h2.below' hb' (Nat.le_refl _)) hu1 hu2 hb1 hb2 ha hb hk eg)
      have HA := Lib.hid (And.intro ha hb)
      clear ha hb h1 h2 hk hu1 hu2
      go_enter Try.func35, Try.ntmps35
      go_wp2_with fail
      refine hr1.out.mono ?_
      rintro e w1 ⟨rfl, hb1'⟩
      go_wp2_with fail
      refine (hr2.out w1 hb1').mono ?_
      rintro e w2 ⟨rfl, hb2'⟩
      have hbw2 := hb1'.trans (hb2'.mono hb1'.size)
      clear hb1' hb2'
      go_wp2_with fail
      refine (hc.out w2 hbw2).mono ?_
      rintro e w3 ⟨v, r, rfl, ho, g1, g2, g3, g4, hb3'⟩
      have HG := Lib.hid (And.intro g1 (And.intro g2 (And.intro g3 g4)))
      clear g1 g2 g3 g4
      go_wp2_with fail
      go_ret2
      exact ⟨_, _, r, rfl, ho.mono hbw2.size, hbw2.trans (hb3'.mono hbw2.size), .inl ⟨HA.out.1, HA.out.2, rfl, HG.out.1, HG.out.2.1, HG.out.2.2.1, HG.out.2.2.2⟩⟩
    · rw [show decide (canon b) = false by simpa using hb] at hr2
      have HB := Lib.hid hb
      clear hb h1 h2 hk
      go_enter Try.func35, Try.ntmps35
      go_wp2_with fail
      refine hr1.out.mono ?_
      rintro e w1 ⟨rfl, hb1'⟩
      go_wp2_with fail
      refine (hr2.out w1 hb1').mono ?_
      rintro e w2 ⟨rfl, hb2'⟩
      go_wp2_with fail
      go_ret2
      exact ⟨_, _, [], rfl, OwnG.nil_ _ _ _ _, hb1'.trans (hb2'.mono hb1'.size), .inr ⟨fun h => HB.out h.2, rfl, rfl, rfl⟩⟩
  · rw [show decide (canon a) = false by simpa using ha] at hr1
    have HA := Lib.hid ha
    clear ha h1 h2 hk
    go_enter Try.func35, Try.ntmps35
    go_wp2_with fail
    refine hr1.out.mono ?_
    rintro e w1 ⟨rfl, hb1'⟩
    go_wp2_with fail
    go_ret2
    exact ⟨_, _, [], rfl, OwnG.nil_ _ _ _ _, hb1', .inr ⟨fun h => HA.out h.1, rfl, rfl, rfl⟩⟩

theorem both_any (A1 A2 : Option Addr) (c1 c2 n1 n2 d1 d2 : Nat) (a b : List Sp) (w : World) (hn1 : a.length = n1) (hn2 : b.length = n2) (h1 : ShowsG spanC w d1 (.slice A1 n1 c1) a) (h2 : ShowsG spanC w d2 (.slice A2 n2 c2) b) (hu1 : u32s a) (hu2 : u32s b)
    (hb1 : n1 ≤ 68719476736) (hb2 : n2 ≤ 68719476736) :
    Calls Try.prog 22 #[.slice A1 n1 c1, .slice A2 n2 c2] w fun e w' => ∃ v code r, e = .returned (.tuple #[v, .int .i64 code]) ∧ OwnG spanC 37 w' w.heap.size v r ∧ Below w.heap.size w w' ∧ PairSaid 0 a b n1 n2 v code r := by
  have hc := Lib.hid (checked_any A1 A2 c1 c2 n1 n2 d1 d2 0 36 a b w hn1 hn2 h1 h2 hu1 hu2 hb1 hb2 keeps_both (enters_of Try.func36 (by kernel_rfl) rfl))
  clear hn1 hn2 h1 h2 hu1 hu2
  go_enter Try.func22, Try.ntmps22
  go_wp2_with fail
  refine hc.out.mono ?_
  rintro e w1 ⟨v, code, r, rfl, ho, hbw, hs⟩
  go_wp2_with fail
  go_ret2
  exact ⟨_, _, r, rfl, ho, hbw, hs⟩
theorem either_any (A1 A2 : Option Addr) (c1 c2 n1 n2 d1 d2 : Nat) (a b : List Sp) (w : World) (hn1 : a.length = n1) (hn2 : b.length = n2) (h1 : ShowsG spanC w d1 (.slice A1 n1 c1) a) (h2 : ShowsG spanC w d2 (.slice A2 n2 c2) b) (hu1 : u32s a) (hu2 : u32s b)
    (hb1 : n1 ≤ 68719476736) (hb2 : n2 ≤ 68719476736) :
    Calls Try.prog 23 #[.slice A1 n1 c1, .slice A2 n2 c2] w fun e w' => ∃ v code r, e = .returned (.tuple #[v, .int .i64 code]) ∧ OwnG spanC 37 w' w.heap.size v r ∧ Below w.heap.size w w' ∧ PairSaid 1 a b n1 n2 v code r := by
  have hc := Lib.hid (checked_any A1 A2 c1 c2 n1 n2 d1 d2 1 32 a b w hn1 hn2 h1 h2 hu1 hu2 hb1 hb2 keeps_either (enters_of Try.func32 (by kernel_rfl) rfl))
  clear hn1 hn2 h1 h2 hu1 hu2
  go_enter Try.func23, Try.ntmps23
  go_wp2_with fail
  refine hc.out.mono ?_
  rintro e w1 ⟨v, code, r, rfl, ho, hbw, hs⟩
  go_wp2_with fail
  go_ret2
  exact ⟨_, _, r, rfl, ho, hbw, hs⟩

end Go.Proofs.Ytpchjgeehejkeaa
