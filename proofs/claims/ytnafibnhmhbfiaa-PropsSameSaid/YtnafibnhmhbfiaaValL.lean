/-
  The contracts of slices.Equal at rows of strings and value.alike.
  Conditions: none but sizes.
-/
import Derived.Test.YtnafibnhmhbfiaaValW
import Derived.Test.YtnafibnhmhbfiaaV5D
import Derived.Deep.QuietTactic
import Derived.BigQuiet
namespace Go.Proofs.Ytnafibnhmhbfiaa
open Go.RowKit
set_option linter.unusedVariables false
set_option linter.unusedSimpArgs false

set_option maxRecDepth 100000 in
set_option maxHeartbeats 2000000 in
theorem equal_any (A1 A2 : Option Addr) (c1 c2 d1 d2 : Nat) (l1 l2 : List ByteArray) (w : World) (h1 : ShowsG strC w d1 (.slice A1 l1.length c1) l1) (h2 : ShowsG strC w d2 (.slice A2 l2.length c2) l2) (hl : l1.length ≤ 8796093022208) (hl2 : l2.length ≤ 8796093022208) :
    Calls Try.prog 83 #[.slice A1 l1.length c1, .slice A2 l2.length c2] w fun e w' => e = .returned (.bool (decide (l1 = l2))) ∧ ∃ q, w' = w.drewN q := by
  obtain ⟨R, hR⟩ : ∃ R, R = decide (l1 = l2) := ⟨_, rfl⟩
  rw [← hR]
  have HR := Lib.hid hR
  clear hR
  by_cases hlen : l1.length = l2.length
  · have hlenI : ((l1.length : Int) != (l2.length : Int)) = false := by simp; omega
    have HL := Lib.hid hlen
    clear hlen
    go_enter Try.func83, Try.ntmps83
    go_wp2_with fail
    go_loopw [13] (fun i wr => ∃ (j q : Nat), j ≤ l1.length ∧ i = .int .i64 j ∧ wr = w.drewN q ∧ Hid (∀ p (h : p < l1.length) (h' : p < l2.length), p < j → l1[p] = l2[p])) (fun i _ => l1.length - (intOf i).toNat)
    case atStart => exact ⟨0, 0, by omega, rfl, rfl, Lib.hid (fun p _ _ h => absurd h (by omega))⟩
    case round =>
      obtain ⟨j, q, hj, rfl, rfl, HP⟩ := hrel
      by_cases hlt : j < l1.length
      · have hlt2 : j < l2.length := by have := HL.out; omega
        obtain ⟨o1, c1', e1, k1⟩ := str_cell h1 j hlt
        obtain ⟨o2, c2', e2, k2⟩ := str_cell h2 j hlt2
        simp only [Value.slice.injEq, true_and] at e1 e2
        obtain ⟨rfl, rfl⟩ := e1
        obtain ⟨rfl, rfl⟩ := e2
        have hj1 : (j : Int) < (l1.length : Int) := by omega
        have hj2 : (j : Int) < (l2.length : Int) := by omega
        by_cases heq : l1[j] = l2[j]
        · have HP2 : Hid (∀ p (h : p < l1.length) (h' : p < l2.length), p < j + 1 → l1[p] = l2[p]) := Lib.hid (fun p h h' hp => by
            by_cases hp2 : p < j
            · exact HP.out p h h' hp2
            · obtain rfl : p = j := by omega
              exact heq)
          have heqB : (l1[j].toList != l2[j].toList) = false := by rw [heq]; simp
          generalize l1[j] = x1 at *
          generalize l2[j] = x2 at *
          subst heq
          clear HP
          go_wp2_with fail
          go_quiet (fail)
          go_wp2_with fail
          go_roundw
          case rel => exact ⟨j + 1, q + nq, by omega, by go_num, rfl, HP2⟩
          case measure => simp [intOf]; omega
        · have hfin : R = false := by
            rw [HR.out]
            exact decide_eq_false fun h => heq (by subst h; rfl)
          have heqB : (l1[j].toList == l2[j].toList) = false := toListNe heq
          generalize l1[j] = x1 at *
          generalize l2[j] = x2 at *
          subst hfin
          clear HP
          go_wp2_with fail
          go_quiet (fail)
          go_wp2_with fail
          go_ret
          exact ⟨rfl, q + nq, World.drewN_drewN _ _ _⟩
      · have hj1 : ¬ (j : Int) < (l1.length : Int) := by omega
        have hfin : R = true := by
          rw [HR.out]
          exact decide_eq_true (List.ext_getElem HL.out fun p h h' => HP.out p h h' (by omega))
        subst hfin
        go_wp2_with fail
        go_ret
        exact ⟨rfl, q, rfl⟩
  · have hlenI : ((l1.length : Int) != (l2.length : Int)) = true := by simp; omega
    have hfin : R = false := by rw [HR.out]; exact decide_eq_false fun h => hlen (by rw [h])
    subst hfin
    clear hlen
    go_enter Try.func83, Try.ntmps83
    go_wp2_with fail
    go_ret
    exact ⟨rfl, 0, rfl⟩

/-- Alike but for what is in their lists. -/
def alikeT (a b : Tree) : Prop := a.k = b.k ∧ a.n = b.n ∧ a.s = b.s ∧ a.ks = b.ks ∧ a.l.length = b.l.length
instance (a b : Tree) : Decidable (alikeT a b) := by unfold alikeT; infer_instance

set_option maxRecDepth 100000 in
set_option maxHeartbeats 2000000 in
theorem alike_any (a b : Tree) (va vb : List Value) (w : World) (ha : ShowsT w a va) (hb : ShowsT w b vb) :
    Calls Try.prog 70 #[.agg va.toArray, .agg vb.toArray] w fun e w' => e = .returned (.bool (decide (alikeT a b))) ∧ Below w.heap.size w w' := by
  obtain ⟨kv, A, c, d0, d1, cs, rfl, k1, k2, hks, hkl, _⟩ := ha.open
  obtain ⟨A3, c3, rfl⟩ := str_form hks
  obtain ⟨kv', A', c', d0', d1', cs', rfl, k1', k2', hks', hkl', _⟩ := hb.open
  obtain ⟨A3', c3', rfl⟩ := str_form hks'
  have HA : Hid (alikeT a b ↔ (a.k = b.k ∧ a.n = b.n ∧ a.s = b.s ∧ a.ks = b.ks ∧ a.l.length = b.l.length)) := Lib.hid Iff.rfl
  obtain ⟨R, hR⟩ : ∃ R, R = decide (alikeT a b) := ⟨_, rfl⟩
  rw [← hR]
  have HR := Lib.hid hR
  have HEQ := Lib.hid (fun w' (hw : Below w.heap.size w w') => equal_any A3 A3' c3 c3' d0 d0' a.ks b.ks w' (hks.below' hw (Nat.le_refl _)) (hks'.below' hw (Nat.le_refl _)) hkl hkl')
  have hBW : Below w.heap.size w ((w.alloc (Obj.cells #[.int .u8 a.k, .int .u64 a.n, .string a.s, .slice A3 a.ks.length c3, .slice A a.l.length c] 27)).alloc (Obj.cells #[.int .u8 b.k, .int .u64 b.n, .string b.s, .slice A3' b.ks.length c3', .slice A' b.l.length c'] 27)) := ((Below.refl _ _).alloc (Nat.le_refl _) _).alloc (by simp) _
  have HEQ1 := Lib.hid (HEQ.out _ hBW)
  have HBW := Lib.hid hBW
  clear hR ha hb hBW HEQ
  by_cases h1 : a.k = b.k
  case neg =>
    have hfin : R = false := by rw [HR.out]; exact decide_eq_false fun h => h1 (HA.out.1 h).1
    have h1B : ((a.k : Int) == (b.k : Int)) = false := by simp; omega
    subst hfin
    go_enter Try.func70, Try.ntmps70
    go_wp2_with fail
    go_ret
    exact ⟨rfl, HBW.out⟩
  have h1B : ((a.k : Int) == (b.k : Int)) = true := by simp [h1]
  by_cases h2 : a.n = b.n
  case neg =>
    have hfin : R = false := by rw [HR.out]; exact decide_eq_false fun h => h2 (HA.out.1 h).2.1
    have h2B : ((a.n : Int) == (b.n : Int)) = false := by simp; omega
    subst hfin
    have h1' := Lib.hid h1
    clear h1
    go_enter Try.func70, Try.ntmps70
    go_wp2_with fail
    go_ret
    exact ⟨rfl, HBW.out⟩
  have h2B : ((a.n : Int) == (b.n : Int)) = true := by simp [h2]
  by_cases h3 : a.s = b.s
  case neg =>
    have hfin : R = false := by rw [HR.out]; exact decide_eq_false fun h => h3 (HA.out.1 h).2.2.1
    have h3B := toListNe h3
    subst hfin
    have h1' := Lib.hid (And.intro h1 h2)
    clear h1 h2
    go_enter Try.func70, Try.ntmps70
    go_wp2_with fail
    go_ret
    exact ⟨rfl, HBW.out⟩
  have h3B : (a.s.toList == b.s.toList) = true := by rw [h3]; simp
  have HH := Lib.hid (And.intro h1 (And.intro h2 h3))
  clear h1 h2 h3
  by_cases h4 : a.ks = b.ks
  case neg =>
    have hfin : R = false := by rw [HR.out]; exact decide_eq_false fun h => h4 (HA.out.1 h).2.2.2.1
    rw [decide_eq_false h4] at HEQ1
    subst hfin
    clear h4
    go_enter Try.func70, Try.ntmps70
    go_wp2_with fail
    refine HEQ1.out.mono ?_
    rintro e w1 ⟨rfl, q, rfl⟩
    go_wp2_with fail
    go_ret
    exact ⟨rfl, below_drewN HBW.out q⟩
  rw [decide_eq_true h4] at HEQ1
  have H4 := Lib.hid h4
  clear h4
  have hfin : R = ((a.l.length : Int) == (b.l.length : Int)) := by
    rw [HR.out]
    by_cases h5 : a.l.length = b.l.length
    · rw [decide_eq_true (HA.out.2 ⟨HH.out.1, HH.out.2.1, HH.out.2.2, H4.out, h5⟩), h5]; simp
    · rw [decide_eq_false fun h => h5 (HA.out.1 h).2.2.2.2]; exact (beq_eq_false_iff_ne.2 (by omega)).symm
  subst hfin
  go_enter Try.func70, Try.ntmps70
  go_wp2_with fail
  refine HEQ1.out.mono ?_
  rintro e w1 ⟨rfl, q, rfl⟩
  go_wp2_with fail
  go_ret
  exact ⟨rfl, below_drewN HBW.out q⟩

end Go.Proofs.Ytnafibnhmhbfiaa
