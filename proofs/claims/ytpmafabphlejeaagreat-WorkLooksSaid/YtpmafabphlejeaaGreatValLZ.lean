/-
  Texts, together: ValL, ValM.
  Conditions: none but sizes.
-/
import Derived.Deep.QuietTactic
import Derived.BigQuiet
import Derived.Test.YtpmafabphlejeaaGreatValGZ
import Derived.Test.YtpmafabphlejeaaGreatV5AZ
import Derived.Deep.LoopGhost
import Derived.Deep.CutRange
/-
  The contracts of slices.Equal at rows of strings and value.alike.
  Conditions: none but sizes.
-/
namespace Go.Proofs.YtpmafabphlejeaaGreat
open Go.RowKit
set_option linter.unusedVariables false
set_option linter.unusedSimpArgs false

set_option maxRecDepth 100000 in
set_option maxHeartbeats 2000000 in
theorem equal_any (A1 A2 : Option Addr) (c1 c2 d1 d2 : Nat) (l1 l2 : List ByteArray) (w : World) (h1 : ShowsG strC w d1 (.slice A1 l1.length c1) l1) (h2 : ShowsG strC w d2 (.slice A2 l2.length c2) l2) (hl : l1.length ≤ 8796093022208) (hl2 : l2.length ≤ 8796093022208) :
    Calls Tryz.prog 158 #[.slice A1 l1.length c1, .slice A2 l2.length c2] w fun e w' => e = .returned (.bool (decide (l1 = l2))) ∧ ∃ q, w' = w.drewN q := by
  obtain ⟨R, hR⟩ : ∃ R, R = decide (l1 = l2) := ⟨_, rfl⟩
  rw [← hR]
  have HR := Lib.hid hR
  clear hR
  by_cases hlen : l1.length = l2.length
  · have hlenI : ((l1.length : Int) != (l2.length : Int)) = false := by simp; omega
    have HL := Lib.hid hlen
    clear hlen
    go_enter Tryz.func158, Tryz.ntmps158
    go_wp2_with fail
    go_loopw [13] (fun i wr => ∃ (j q : Nat), j ≤ l1.length ∧ i = .int .i64 j ∧ wr = w.drewN q ∧ Hid (∀ p (h : p < l1.length) (h' : p < l2.length), p < j → l1[p] = l2[p])) (fun i _ => l1.length - (intOf i).toNat)
    case atStart => exact ⟨0, 0, by omega, rfl, rfl, Lib.hid (fun p _ _ h => absurd h (by omega))⟩
    case round =>
      obtain ⟨j, q, hj, rfl, rfl, HP⟩ := hrel
      by_cases hlt : j < l1.length
      · have hlt2 : j < l2.length := by have := HL.out; omega
        obtain ⟨o1, c1', e1, k1⟩ := str_cell h1 j hlt
        obtain ⟨o2, c2', e2, k2⟩ := str_cell h2 j hlt2
        simp only [Value.slice.injEq, true_and] at e1 e2
        obtain ⟨rfl, rfl⟩ := e1
        obtain ⟨rfl, rfl⟩ := e2
        have hj1 : (j : Int) < (l1.length : Int) := by omega
        have hj2 : (j : Int) < (l2.length : Int) := by omega
        by_cases heq : l1[j] = l2[j]
        · have HP2 : Hid (∀ p (h : p < l1.length) (h' : p < l2.length), p < j + 1 → l1[p] = l2[p]) := Lib.hid (fun p h h' hp => by
            by_cases hp2 : p < j
            · exact HP.out p h h' hp2
            · obtain rfl : p = j := by omega
              exact heq)
          have heqB : (l1[j].toList != l2[j].toList) = false := by rw [heq]; simp
          generalize l1[j] = x1 at *
          generalize l2[j] = x2 at *
          subst heq
          clear HP
          go_wp2_with fail
          go_quiet (fail)
          go_wp2_with fail
          go_roundw
          case rel => exact ⟨j + 1, q + nq, by omega, by go_num, rfl, HP2⟩
          case measure => simp [intOf]; omega
        · have hfin : R = false := by
            rw [HR.out]
            exact decide_eq_false fun h => heq (by subst h; rfl)
          have heqB : (l1[j].toList == l2[j].toList) = false := toListNe heq
          generalize l1[j] = x1 at *
          generalize l2[j] = x2 at *
          subst hfin
          clear HP
          go_wp2_with fail
          go_quiet (fail)
          go_wp2_with fail
          go_ret
          exact ⟨rfl, q + nq, World.drewN_drewN _ _ _⟩
      · have hj1 : ¬ (j : Int) < (l1.length : Int) := by omega
        have hfin : R = true := by
          rw [HR.out]
          exact decide_eq_true (List.ext_getElem HL.out fun p h h' => HP.out p h h' (by omega))
        subst hfin
        go_wp2_with fail
        go_ret
        exact ⟨rfl, q, rfl⟩
  · have hlenI : ((l1.length : Int) != (l2.length : Int)) = true := by simp; omega
    have hfin : R = false := by rw [HR.out]; exact decide_eq_false fun h => hlen (by rw [h])
    subst hfin
    clear hlen
    go_enter Tryz.func158, Tryz.ntmps158
    go_wp2_with fail
    go_ret
    exact ⟨rfl, 0, rfl⟩

/-- Alike but for what is in their lists. -/
def alikeT (a b : Tree) : Prop := a.k = b.k ∧ a.n = b.n ∧ a.s = b.s ∧ a.ks = b.ks ∧ a.l.length = b.l.length
instance (a b : Tree) : Decidable (alikeT a b) := by unfold alikeT; infer_instance

set_option maxRecDepth 100000 in
set_option maxHeartbeats 2000000 in
theorem alike_any (a b : Tree) (va vb : List Value) (w : World) (ha : ShowsT w a va) (hb : ShowsT w b vb) :
    Calls Tryz.prog 150 #[.agg va.toArray, .agg vb.toArray] w fun e w' => e = .returned (.bool (decide (alikeT a b))) ∧ Below w.heap.size w w' := by
  obtain ⟨kv, A, c, d0, d1, cs, rfl, k1, k2, hks, hkl, _⟩ := ha.open
  obtain ⟨A3, c3, rfl⟩ := str_form hks
  obtain ⟨kv', A', c', d0', d1', cs', rfl, k1', k2', hks', hkl', _⟩ := hb.open
  obtain ⟨A3', c3', rfl⟩ := str_form hks'
  have HA : Hid (alikeT a b ↔ (a.k = b.k ∧ a.n = b.n ∧ a.s = b.s ∧ a.ks = b.ks ∧ a.l.length = b.l.length)) := Lib.hid Iff.rfl
  obtain ⟨R, hR⟩ : ∃ R, R = decide (alikeT a b) := ⟨_, rfl⟩
  rw [← hR]
  have HR := Lib.hid hR
  have HEQ := Lib.hid (fun w' (hw : Below w.heap.size w w') => equal_any A3 A3' c3 c3' d0 d0' a.ks b.ks w' (hks.below' hw (Nat.le_refl _)) (hks'.below' hw (Nat.le_refl _)) hkl hkl')
  have hBW : Below w.heap.size w ((w.alloc (Obj.cells #[.int .u8 a.k, .int .u64 a.n, .string a.s, .slice A3 a.ks.length c3, .slice A a.l.length c] 31)).alloc (Obj.cells #[.int .u8 b.k, .int .u64 b.n, .string b.s, .slice A3' b.ks.length c3', .slice A' b.l.length c'] 31)) := ((Below.refl _ _).alloc (Nat.le_refl _) _).alloc (by simp) _
  have HEQ1 := Lib.hid (HEQ.out _ hBW)
  have HBW := Lib.hid hBW
  clear hR ha hb hBW HEQ
  by_cases h1 : a.k = b.k
  case neg =>
    have hfin : R = false := by rw [HR.out]; exact decide_eq_false fun h => h1 (HA.out.1 h).1
    have h1B : ((a.k : Int) == (b.k : Int)) = false := by simp; omega
    subst hfin
    go_enter Tryz.func150, Tryz.ntmps150
    go_wp2_with fail
    go_ret
    exact ⟨rfl, HBW.out⟩
  have h1B : ((a.k : Int) == (b.k : Int)) = true := by simp [h1]
  by_cases h2 : a.n = b.n
  case neg =>
    have hfin : R = false := by rw [HR.out]; exact decide_eq_false fun h => h2 (HA.out.1 h).2.1
    have h2B : ((a.n : Int) == (b.n : Int)) = false := by simp; omega
    subst hfin
    have h1' := Lib.hid h1
    clear h1
    go_enter Tryz.func150, Tryz.ntmps150
    go_wp2_with fail
    go_ret
    exact ⟨rfl, HBW.out⟩
  have h2B : ((a.n : Int) == (b.n : Int)) = true := by simp [h2]
  by_cases h3 : a.s = b.s
  case neg =>
    have hfin : R = false := by rw [HR.out]; exact decide_eq_false fun h => h3 (HA.out.1 h).2.2.1
    have h3B := toListNe h3
    subst hfin
    have h1' := Lib.hid (And.intro h1 h2)
    clear h1 h2
    go_enter Tryz.func150, Tryz.ntmps150
    go_wp2_with fail
    go_ret
    exact ⟨rfl, HBW.out⟩
  have h3B : (a.s.toList == b.s.toList) = true := by rw [h3]; simp
  have HH := Lib.hid (And.intro h1 (And.intro h2 h3))
  clear h1 h2 h3
  by_cases h4 : a.ks = b.ks
  case neg =>
    have hfin : R = false := by rw [HR.out]; exact decide_eq_false fun h => h4 (HA.out.1 h).2.2.2.1
    rw [decide_eq_false h4] at HEQ1
    subst hfin
    clear h4
    go_enter Tryz.func150, Tryz.ntmps150
    go_wp2_with fail
    refine HEQ1.out.mono ?_
    rintro e w1 ⟨rfl, q, rfl⟩
    go_wp2_with fail
    go_ret
    exact ⟨rfl, below_drewN HBW.out q⟩
  rw [decide_eq_true h4] at HEQ1
  have H4 := Lib.hid h4
  clear h4
  have hfin : R = ((a.l.length : Int) == (b.l.length : Int)) := by
    rw [HR.out]
    by_cases h5 : a.l.length = b.l.length
    · rw [decide_eq_true (HA.out.2 ⟨HH.out.1, HH.out.2.1, HH.out.2.2, H4.out, h5⟩), h5]; simp
    · rw [decide_eq_false fun h => h5 (HA.out.1 h).2.2.2.2]; exact (beq_eq_false_iff_ne.2 (by omega)).symm
  subst hfin
  go_enter Tryz.func150, Tryz.ntmps150
  go_wp2_with fail
  refine HEQ1.out.mono ?_
  rintro e w1 ⟨rfl, q, rfl⟩
  go_wp2_with fail
  go_ret
  exact ⟨rfl, below_drewN HBW.out q⟩

end Go.Proofs.YtpmafabphlejeaaGreat
/-
  The contract of value.Same.
  Conditions: the first value has at most 2^41 values in it.
-/
namespace Go.Proofs.YtpmafabphlejeaaGreat
open Go.RowKit
set_option linter.unusedVariables false
set_option linter.unusedSimpArgs false

/-- Two rows of values that are to be compared, as two cells. -/
structure Twin where
  a1 : Option Addr
  n1 : Nat
  c1 : Nat
  a2 : Option Addr
  n2 : Nat
  c2 : Nat
def twinC : Code Twin := { enc := fun x => [.slice x.a1 x.n1 x.c1, .slice x.a2 x.n2 x.c2], sz := 2, len := fun _ => rfl, one := fun x u hu => by simp at hu; rcases hu with rfl | rfl <;> rfl, pos := by omega }
theorem infoTwin : (Tryz.prog.info? 181).map (fun i => (i.zero, i.size, i.bytes)) = some (some (.agg #[.slice none 0 0, .slice none 0 0]), 2, 48) := by kernel_rfl

theorem OwnG.takeN {α : Type} {C : Code α} {e : TypeId} {w : World} {base : Nat} {A : Option Addr} {n c : Nat} {l : List α} (h : OwnG C e w base (.slice A n c) l) (k : Nat) (hk : k ≤ l.length) (hA : A ≠ none) : OwnG C e w base (.slice A k c) (l.take k) := by
  rcases h.2 with ⟨h1, _⟩ | ⟨g, cap, cur, e1, hb, hg, hnc, hcm, hcs, ht⟩
  · simp at h1; exact absurd h1.1 hA
  · simp only [Value.slice.injEq] at e1
    obtain ⟨rfl, rfl, rfl⟩ := e1
    refine ⟨?_, .inr ⟨g, _, cur, ?_, hb, hg, ?_, hcm, hcs, ?_⟩⟩
    · rw [C.all_length]
    · rw [List.length_take, Nat.min_eq_left hk]
    · rw [List.length_take]; omega
    · have h3 : C.all l = C.all (l.take k) ++ C.all (l.drop k) := by rw [← C.all_append, List.take_append_drop]
      have hlen : (C.all (l.take k)).length = k * C.sz := by rw [C.all_length, List.length_take, Nat.min_eq_left hk]
      have h2 : (C.all l).take (k * C.sz) = C.all (l.take k) := by
        rw [h3, List.take_append_of_le_length (by omega), List.take_of_length_le (by omega)]
      rw [← h2, ← ht, List.take_take, List.length_take, Nat.min_eq_left hk]
      congr 1
      exact (Nat.min_eq_left (Nat.mul_le_mul_right _ hk)).symm

/-- What is still to be compared. -/
def tot : List (List Tree × List Tree) → Nat
  | [] => 0
  | p :: r => cntL p.1 + tot r
theorem tot_append : ∀ a b, tot (a ++ b) = tot a + tot b
  | [], b => by simp [tot]
  | p :: r, b => by simp only [List.cons_append, tot]; rw [tot_append r b]; omega
theorem tot_len : ∀ (S : List (List Tree × List Tree)), (∀ p ∈ S, 0 < p.1.length) → S.length ≤ tot S
  | [], _ => Nat.zero_le _
  | p :: r, h => by
    have h1 := tot_len r (fun q hq => h q (by simp [hq]))
    have h2 := h p (by simp)
    have h3 := cntL_len p.1
    simp only [List.length_cons, tot]
    omega
def allSame (S : List (List Tree × List Tree)) : Prop := ∀ p ∈ S, sameL p.1 p.2 = true
theorem same_alike {a b : Tree} : sameT a b = true ↔ alikeT a b ∧ sameL a.l b.l = true := by
  rw [sameT_eq, Bool.and_eq_true, decide_eq_true_iff]
  unfold alikeT
  constructor
  · rintro ⟨⟨h1, h2, h3, h4⟩, h5⟩
    exact ⟨⟨h1, h2, h3, h4, ((sameL_iff _ _).1 h5).1⟩, h5⟩
  · rintro ⟨⟨h1, h2, h3, h4, _⟩, h5⟩
    exact ⟨⟨h1, h2, h3, h4⟩, h5⟩
theorem sameL_nil {b : List Tree} (h : b.length = 0) : sameL [] b = true := by
  rw [sameL_iff]
  exact ⟨h.symm, fun j hj => absurd hj (by simp)⟩

/-- What two rows show: these two lists. -/
def ShowsTw (w : World) (x : Twin) (p : List Tree × List Tree) : Prop := x.n1 = p.1.length ∧ x.n2 = p.2.length ∧ p.1.length = p.2.length ∧ 0 < p.1.length ∧ ListT w p.1 x.a1 x.c1 ∧ ListT w p.2 x.a2 x.c2
theorem ShowsTw.sub {w w' : World} {x : Twin} {p : List Tree × List Tree} (h : ShowsTw w x p) (hs : Sub w w') : ShowsTw w' x p := ⟨h.1, h.2.1, h.2.2.1, h.2.2.2.1, h.2.2.2.2.1.sub hs, h.2.2.2.2.2.sub hs⟩

/-- One value in a block of its own. -/
theorem listT_one {w : World} {g : Nat} {t : Tree} {v0 v1 v2 v3 v4 : Value} (h : ShowsT w t [v0, v1, v2, v3, v4]) (hg : w.heap[g]? = some (.cells #[v0, v1, v2, v3, v4] 31 (0, 0))) : ListT w [t] (some ⟨g, 0, none⟩) 1 := by
  refine ⟨by simp, by simp, by simp [maxLen], fun j hj => ?_⟩
  obtain rfl : j = 0 := by simpa using hj
  have hB : BoxV w g v0 v1 v2 v3 v4 := hg
  exact ⟨g, 0, v0, v1, v2, v3, v4, rfl, hB.lt, h, hB.c0, hB.c1, hB.c2, hB.c3, hB.c4⟩

/-- All blocks but one. -/
def Oth (g k : Nat) : Prop := k ≠ g
theorem pm_out (P : Nat → Prop) (w : World) : Sub (pm P w) w := (pm_low (B := 0) (fun _ _ => Nat.zero_le _)).trans (low_out 0 w)
theorem pm_below {P : Nat → Prop} {w w' : World} (h : Below w.heap.size w w') : Sub (pm P w) (pm P w') := pm_pm h.size fun k hk hkw => ⟨hk, h.block k hkw⟩
theorem one_left {g g' : Nat} {w wa w' : World} (hwa : Below w.heap.size w wa) (hg : wa.grownBy w' (some g)) (h : g' = g ∨ g' = wa.heap.size) : Sub (pm (Oth g) w) (pm (Oth g') w') := by
  have hsz := hwa.size
  refine pm_pm (Nat.le_trans hsz hg.size) fun k hk hkw => ⟨?_, ?_⟩
  · rcases h with rfl | rfl
    · exact hk
    · show k ≠ _; omega
  · exact (hg.block k (by omega) (fun e => hk (Option.some.inj e))).trans (hwa.block k hkw)
theorem cntL_drop (l : List Tree) (j : Nat) (h : j < l.length) : cntL (l.drop j) = 1 + cntL (l[j]).l + cntL (l.drop (j + 1)) := by
  rw [List.drop_eq_getElem_cons h]
  show cntT l[j] + cntL (l.drop (j + 1)) = _
  rw [cntT_eq]

/-- What the loop holds: in the row of block g lie rows of values that are still to be compared. -/
structure Work (base : Nat) (w : World) (g n cap : Nat) (S : List (List Tree × List Tree)) : Prop where
  len : S.length = n
  row : ∃ xs, OwnG twinC 181 w base (.slice (some ⟨g, 0, none⟩) n cap) xs ∧ ∀ q (h1 : q < xs.length) (h2 : q < S.length), ShowsTw (pm (Oth g) w) xs[q] S[q]
theorem Work.below {base : Nat} {w w' : World} {g n cap : Nat} {S : List (List Tree × List Tree)} (h : Work base w g n cap S) (hb : Below w.heap.size w w') : Work base w' g n cap S := by
  obtain ⟨xs, h1, h2⟩ := h.row
  exact ⟨h.len, xs, h1.below hb (Nat.le_refl _), fun q a b => (h2 q a b).sub (pm_below hb)⟩
theorem Work.lt {base : Nat} {w : World} {g n cap : Nat} {S : List (List Tree × List Tree)} (h : Work base w g n cap S) : base ≤ g ∧ g < w.heap.size := by
  obtain ⟨xs, h1, h2⟩ := h.row
  exact h1.block g rfl
/-- The last one, and those before it. -/
theorem Work.last {base : Nat} {w : World} {g m cap : Nat} {S : List (List Tree × List Tree)} {p : List Tree × List Tree} (h : Work base w g (m + 1) cap (S ++ [p])) :
    ∃ x : Twin, Work base w g m cap S ∧ w.cell? ⟨g, m * 2, none⟩ = some (.slice x.a1 x.n1 x.c1) ∧ w.cell? ⟨g, m * 2 + 1, none⟩ = some (.slice x.a2 x.n2 x.c2) ∧ ShowsTw (pm (Oth g) w) x p ∧ m + 1 ≤ cap := by
  obtain ⟨xs, h1, h2⟩ := h.row
  have hl := h.len
  simp only [List.length_append, List.length_singleton] at hl
  obtain ⟨hx, hcap, _⟩ := h1.len_
  obtain ⟨b, e, _, _, _, hc⟩ := h1.at_ (by omega)
  simp only [Option.some.injEq, Addr.mk.injEq, and_true] at e
  subst e
  have hm : m < xs.length := by omega
  refine ⟨xs[m], ⟨by omega, xs.take m, h1.takeN m (by omega) (by simp), fun q a1 b1 => ?_⟩, hc m hm 0 (by decide), hc m hm 1 (by decide), ?_, hcap⟩
  · have hq : q < xs.length := by rw [List.length_take] at a1; omega
    have := h2 q hq (by simp; omega)
    rw [List.getElem_append_left b1] at this
    rw [List.getElem_take]
    exact this
  · have := h2 m hm (by simp; omega)
    rw [List.getElem_append_right (by omega)] at this
    simpa using this

set_option maxRecDepth 100000 in
set_option maxHeartbeats 4000000 in
theorem same_any (a b : Tree) (va vb : List Value) (w : World) (ha : ShowsT w a va) (hb : ShowsT w b vb) (hc : cntT a ≤ 1000000) :
    Calls Tryz.prog 143 #[.agg va.toArray, .agg vb.toArray] w fun e w' => e = .returned (.bool (sameT a b)) ∧ Below w.heap.size w w' := by
  obtain ⟨k0, n0, s0, a3, n3, c3, a4, n4, c4, rfl⟩ := ha.cells5
  obtain ⟨k1, n1, s1, b3, m3, e3, b4, m4, e4, rfl⟩ := hb.cells5
  obtain ⟨R, hR⟩ : ∃ R, R = sameT a b := ⟨_, rfl⟩
  rw [← hR]
  have HR := Lib.hid hR
  clear hR
  have HAL := Lib.hid (fun a b va vb w ha hb => alike_any a b va vb w ha hb)
  go_enter Tryz.func143, Tryz.ntmps143
  go_wp2_with fail
  go_loopg [5] (cntT a) (fun kx s5 wr => ∃ (g n cap : Nat) (S : List (List Tree × List Tree)), s5 = .slice (some ⟨g, 0, none⟩) n cap ∧ Work w.heap.size wr g n cap S ∧ tot S ≤ kx ∧ kx ≤ 1000000 ∧ Below w.heap.size w wr ∧ Hid (R = true ↔ allSame S) ∧ Hid (∀ p ∈ S, 0 < p.1.length))
  case atStart =>
    refine ⟨_, 1, 1, [([a], [b])], rfl, ?_, ?_, hc, ?_, Lib.hid ?_, Lib.hid ?_⟩
    · have hbA1 : Below w.heap.size w (w.alloc (Obj.cells #[.int .u8 k0, .int .u64 n0, .string s0, .slice a3 n3 c3, .slice a4 n4 c4] 31)) := below_boxV _ _
      have hbA2 := hbA1.alloc (by simp) (Obj.cells #[.int .u8 k1, .int .u64 n1, .string s1, .slice b3 m3 e3, .slice b4 m4 e4] 31)
      have hbA3 := hbA2.alloc (by simp; omega) (Obj.cells #[.int .u8 k0, .int .u64 n0, .string s0, .slice a3 n3 c3, .slice a4 n4 c4] 31)
      have hbA4 := hbA3.alloc (by simp; omega) (Obj.cells #[.int .u8 k1, .int .u64 n1, .string s1, .slice b3 m3 e3, .slice b4 m4 e4] 31)
      obtain ⟨W2, hW2⟩ : ∃ W2, W2 = (w.alloc (Obj.cells #[.int .u8 k0, .int .u64 n0, .string s0, .slice a3 n3 c3, .slice a4 n4 c4] 31)).alloc (Obj.cells #[.int .u8 k1, .int .u64 n1, .string s1, .slice b3 m3 e3, .slice b4 m4 e4] 31) := ⟨_, rfl⟩
      have hs2 : W2.heap.size = w.heap.size + 1 + 1 := by rw [hW2]; simp
      rw [← hW2] at hbA2 hbA3 hbA4 ⊢
      obtain ⟨W4, hW4⟩ : ∃ W4, W4 = (W2.alloc (Obj.cells #[.int .u8 k0, .int .u64 n0, .string s0, .slice a3 n3 c3, .slice a4 n4 c4] 31)).alloc (Obj.cells #[.int .u8 k1, .int .u64 n1, .string s1, .slice b3 m3 e3, .slice b4 m4 e4] 31) := ⟨_, rfl⟩
      have hs4 : W4.heap.size = w.heap.size + 1 + 1 + 1 + 1 := by rw [hW4]; simp [hs2]
      have hB1 : BoxV W4 (w.heap.size + 1 + 1) (.int .u8 k0) (.int .u64 n0) (.string s0) (.slice a3 n3 c3) (.slice a4 n4 c4) := by
        rw [hW4, ← hs2]
        exact (BoxV.new W2).kept ((Below.refl _ _).alloc (Nat.le_refl _) _) (Nat.le_refl _)
      have hB2 : BoxV W4 (w.heap.size + 1 + 1 + 1) (.int .u8 k1) (.int .u64 n1) (.string s1) (.slice b3 m3 e3) (.slice b4 m4 e4) := by
        rw [hW4, ← hs2]
        have := heap_alloc_new (W2.alloc (Obj.cells #[.int .u8 k0, .int .u64 n0, .string s0, .slice a3 n3 c3, .slice a4 n4 c4] 31)) (Obj.cells #[.int .u8 k1, .int .u64 n1, .string s1, .slice b3 m3 e3, .slice b4 m4 e4] 31)
        rw [World.size_alloc] at this
        exact this
      rw [← hW4] at hbA4 ⊢
      have hL1 : ListT W4 [a] (some ⟨w.heap.size + 1 + 1, 0, none⟩) 1 := listT_one (ha.kept hbA4 (Nat.le_refl _)) hB1
      have hL2 : ListT W4 [b] (some ⟨w.heap.size + 1 + 1 + 1, 0, none⟩) 1 := listT_one (hb.kept hbA4 (Nat.le_refl _)) hB2
      have hsub : Sub W4 (pm (Oth (w.heap.size + 1 + 1 + 1 + 1)) (W4.alloc (Obj.cells #[.slice (some ⟨w.heap.size + 1 + 1, 0, none⟩) 1 1, .slice (some ⟨w.heap.size + 1 + 1 + 1, 0, none⟩) 1 1] 181))) := by
        refine ⟨by rw [pm_size]; simp, fun k i v hc => ?_⟩
        have hk : k < W4.heap.size := by
          by_cases hk : k < W4.heap.size
          · exact hk
          · have e : W4.heap[k]? = none := Array.getElem?_eq_none (by omega)
            simp [World.cell?, e] at hc
        have hP : Oth (w.heap.size + 1 + 1 + 1 + 1) k := by show k ≠ _; omega
        rw [← hc]
        exact World.cell?_of_block (w := W4) (by show (pm _ _).heap[k]? = _; rw [pm_hi hP, Below.heap_alloc _ _ _ hk])
      refine ⟨rfl, [⟨some ⟨w.heap.size + 1 + 1, 0, none⟩, 1, 1, some ⟨w.heap.size + 1 + 1 + 1, 0, none⟩, 1, 1⟩], ?_, fun q h1 h2 => ?_⟩
      · have := OwnG.lit (C := twinC) (e := 181) (w := W4) (base := w.heap.size) (cs := #[.slice (some ⟨w.heap.size + 1 + 1, 0, none⟩) 1 1, .slice (some ⟨w.heap.size + 1 + 1 + 1, 0, none⟩) 1 1]) [⟨some ⟨w.heap.size + 1 + 1, 0, none⟩, 1, 1, some ⟨w.heap.size + 1 + 1 + 1, 0, none⟩, 1, 1⟩] (by simp [Code.all, twinC]) (by simp [maxLen]) (by omega)
        rw [hs4] at this
        exact this
      · obtain rfl : q = 0 := by simpa using h1
        exact ⟨rfl, rfl, rfl, by simp, hL1.sub hsub, hL2.sub hsub⟩
    · simp [tot, cntL]
    · exact ((((below_boxV w _).alloc (by simp) _).alloc (by simp; omega) _).alloc (by simp; omega) _).alloc (by simp; omega) _
    · rw [HR.out]
      simp [allSame, sameL]
    · intro p hp
      simp at hp
      subst hp
      simp
  case round =>
    obtain ⟨g, n, cap, S, rfl, hW, htot, hkx, hbj, HRS, HPOS⟩ := hrel
    rename World => wj
    by_cases h0 : 0 < n
    · obtain ⟨m, rfl⟩ : ∃ m, n = m + 1 := ⟨n - 1, by omega⟩
      obtain ⟨S', p, rfl⟩ : ∃ S' p, S = S' ++ [p] := ⟨S.dropLast, S.getLast (List.ne_nil_of_length_pos (by have := hW.len; omega)), (List.dropLast_concat_getLast _).symm⟩
      obtain ⟨x, hW', k1', k2', ⟨hx1, hx2, hpl, hpp, hL1, hL2⟩, hmc⟩ := hW.last
      have hgl := hW.lt
      have hgne0 : g ≠ wj.heap.size := by omega
      obtain ⟨la, lb⟩ := p
      obtain ⟨xa1, xn1, xc1, xa2, xn2, xc2⟩ := x
      simp only at hx1 hx2 hpl hpp hL1 hL2 k1' k2'
      subst hx1
      subst hx2
      have hmlen := hW'.len
      rw [tot_append] at htot
      simp only [tot] at htot
      have hlnx := cntL_len la
      have hposS := tot_len S' (fun q hq => HPOS.out q (by simp [hq]))
      have hHW := Lib.hid hW'
      have hmI : (0 : Int) < ((m : Int) + 1) := by omega
      have HPL := Lib.hid hpl
      clear hW hW' hpl
      go_wp2_with fail
      obtain ⟨Wn, hWn⟩ : ∃ Wn, Wn = wj.alloc (Obj.cells #[.slice xa1 la.length xc1, .slice xa2 lb.length xc2] 181) := ⟨_, rfl⟩
      have hbN : Below wj.heap.size wj Wn := by rw [hWn]; exact (Below.refl _ _).alloc (Nat.le_refl _) _
      have hBoxN : Wn.heap[wj.heap.size]? = some (.cells #[.slice xa1 la.length xc1, .slice xa2 lb.length xc2] 181 (0, 0)) := by rw [hWn]; exact heap_alloc_new _ _
      have hWkN := Lib.hid (hHW.out.below hbN)
      have hL1N := Lib.hid (hL1.sub (pm_below hbN))
      have hL2N := Lib.hid (hL2.sub (pm_below hbN))
      have hbjN := hbj.trans (hbN.mono hbj.size)
      have hsN := hbN.size
      rw [← hWn]
      have HRS2 : Hid (R = true ↔ (allSame S' ∧ ∀ q (h1 : q < la.length) (h2 : q < lb.length), sameT la[q] lb[q] = true)) := Lib.hid (by
        rw [HRS.out]
        unfold allSame
        constructor
        · intro h
          exact ⟨fun q hq => h q (by simp [hq]), ((sameL_iff _ _).1 (h (la, lb) (by simp))).2⟩
        · rintro ⟨h1, h2⟩ q hq
          rcases List.mem_append.1 hq with hq | hq
          · exact h1 q hq
          · simp at hq
            subst hq
            exact (sameL_iff _ _).2 ⟨HPL.out, h2⟩)
      clear hL1 hL2 k1' k2' hHW hWn hbN hgl
      go_loopw [5, 33] (fun s5 s33 wr => ∃ (i g n cap : Nat) (S : List (List Tree × List Tree)), i ≤ la.length ∧ s33 = .int .i64 i ∧ s5 = .slice (some ⟨g, 0, none⟩) n cap ∧ Work w.heap.size wr g n cap S ∧ Hid (ListT (pm (Oth g) wr) la xa1 xc1) ∧ Hid (ListT (pm (Oth g) wr) lb xa2 xc2) ∧ tot S + cntL (la.drop i) + i ≤ gk ∧ Below w.heap.size w wr ∧
          wr.heap[wj.heap.size]? = some (.cells #[.slice xa1 la.length xc1, .slice xa2 lb.length xc2] 181 (0, 0)) ∧ g ≠ wj.heap.size ∧ Hid (∀ p ∈ S, 0 < p.1.length) ∧ Hid (R = true ↔ (allSame S ∧ ∀ q (h1 : q < la.length) (h2 : q < lb.length), i ≤ q → sameT la[q] lb[q] = true))) (fun _ s33 _ => la.length - (intOf s33).toNat)
      case atStart => exact ⟨0, g, m, cap, S', by omega, rfl, rfl, hWkN.out, hL1N, hL2N, by simp; omega, hbjN, hBoxN, hgne0, Lib.hid (fun q hq => HPOS.out q (by simp [hq])), Lib.hid (by rw [HRS2.out]; exact ⟨fun h => ⟨h.1, fun q a b _ => h.2 q a b⟩, fun h => ⟨h.1, fun q a b => h.2 q a b (Nat.zero_le _)⟩⟩)⟩
      case round =>
        obtain ⟨i, g2, n2, cap2, S2, hi, rfl, rfl, hW2, hL1r, hL2r, htot2, hbr, hBox2, hgne, HPOS2, HRS3⟩ := hrel
        rename World => wr
        have hsr := (Array.getElem?_eq_some_iff.1 hBox2).1
        have t1 : wr.cell? ⟨wj.heap.size, 1, none⟩ = some (.slice xa2 lb.length xc2) := by rw [cell_of_row wr _ 1 _ 181 (0, 0) hBox2]; rfl
        by_cases hlt : i < la.length
        · have hlt2 : i < lb.length := by have := HPL.out; omega
          obtain ⟨d, o, v0, v1, v2, v3, v4, rfl, hd, hch, e0, e1, e2, e3', e4'⟩ := hL1r.out.at_ i hlt
          obtain ⟨d', o', u0', u1', u2', u3', u4', rfl, hd', hch', f0, f1, f2, f3, f4⟩ := hL2r.out.at_ i hlt2
          obtain ⟨p1, p2, p3, p4, p5, p6, p7, p8, p9, hvs⟩ := hch.cells5
          simp only [List.cons.injEq, and_true] at hvs
          obtain ⟨rfl, rfl, rfl, rfl, rfl⟩ := hvs
          obtain ⟨r1, r2, r3, r4, r5, r6, r7, r8, r9, hvs⟩ := hch'.cells5
          simp only [List.cons.injEq, and_true] at hvs
          obtain ⟨rfl, rfl, rfl, rfl, rfl⟩ := hvs
          have hp8 : p8 = (la[i]'hlt).l.length := by
            obtain ⟨_, _, _, _, _, _, e, _⟩ := hch.open
            simp only [List.cons.injEq, Value.slice.injEq, and_true] at e
            omega
          have hr8 : r8 = (lb[i]'hlt2).l.length := by
            obtain ⟨_, _, _, _, _, _, e, _⟩ := hch'.open
            simp only [List.cons.injEq, Value.slice.injEq, and_true] at e
            omega
          subst hp8
          subst hr8
          have e0 := (pm_out _ _).2 _ _ _ e0
          have e1 := (pm_out _ _).2 _ _ _ e1
          have e2 := (pm_out _ _).2 _ _ _ e2
          have e3' := (pm_out _ _).2 _ _ _ e3'
          have e4' := (pm_out _ _).2 _ _ _ e4'
          have f0 := (pm_out _ _).2 _ _ _ f0
          have f1 := (pm_out _ _).2 _ _ _ f1
          have f2 := (pm_out _ _).2 _ _ _ f2
          have f3 := (pm_out _ _).2 _ _ _ f3
          have f4 := (pm_out _ _).2 _ _ _ f4
          rw [pm_size] at hd hd'
          have hil : (i : Int) < (la.length : Int) := by omega
          have hil2 : (i : Int) < (lb.length : Int) := by omega
          have hdrop := cntL_drop la i hlt
          have HCL := Lib.hid (hch.list)
          have HCL2 := Lib.hid (hch'.list)
          have HA := Lib.hid (hch.sub (pm_out _ _))
          have HB := Lib.hid (hch'.sub (pm_out _ _))
          have HSA := Lib.hid (same_alike (a := la[i]'hlt) (b := lb[i]'hlt2))
          have e0b : ∀ o, (wr.alloc o).cell? ⟨d', o' + i * 5, none⟩ = some (.int .u8 r1) := fun o => by rw [World.cell?_alloc_lt _ _ _ hd']; exact f0
          have e1b : ∀ o, (wr.alloc o).cell? ⟨d', o' + i * 5 + 1, none⟩ = some (.int .u64 r2) := fun o => by rw [World.cell?_alloc_lt _ _ _ hd']; exact f1
          have e2b : ∀ o, (wr.alloc o).cell? ⟨d', o' + i * 5 + 2, none⟩ = some (.string r3) := fun o => by rw [World.cell?_alloc_lt _ _ _ hd']; exact f2
          have e3b : ∀ o, (wr.alloc o).cell? ⟨d', o' + i * 5 + 3, none⟩ = some (.slice r4 r5 r6) := fun o => by rw [World.cell?_alloc_lt _ _ _ hd']; exact f3
          have e4b : ∀ o, (wr.alloc o).cell? ⟨d', o' + i * 5 + 4, none⟩ = some (.slice r7 (lb[i]'hlt2).l.length r9) := fun o => by rw [World.cell?_alloc_lt _ _ _ hd']; exact f4
          have t1b : ∀ o, (wr.alloc o).cell? ⟨wj.heap.size, 1, none⟩ = some (.slice (some ⟨d', o', none⟩) lb.length xc2) := fun o => by rw [World.cell?_alloc_lt _ _ _ hsr]; exact t1
          clear hch hch'
          go_upto_region 10 with fail
          obtain ⟨W2, hW2e⟩ : ∃ W2, W2 = (wr.alloc (Obj.cells #[.int .u8 p1, .int .u64 p2, .string p3, .slice p4 p5 p6, .slice p7 (la[i]'hlt).l.length p9] 31)).alloc (Obj.cells #[.int .u8 r1, .int .u64 r2, .string r3, .slice r4 r5 r6, .slice r7 (lb[i]'hlt2).l.length r9] 31) := ⟨_, rfl⟩
          have hb2 : Below wr.heap.size wr W2 := by rw [hW2e]; exact ((Below.refl _ _).alloc (Nat.le_refl _) _).alloc (by simp) _
          have hs2 : W2.heap.size = wr.heap.size + 2 := by rw [hW2e]; simp
          have hX2 : BoxV W2 wr.heap.size (.int .u8 p1) (.int .u64 p2) (.string p3) (.slice p4 p5 p6) (.slice p7 (la[i]'hlt).l.length p9) := by rw [hW2e]; exact (BoxV.new wr).kept ((Below.refl _ _).alloc (Nat.le_refl _) _) (Nat.le_refl _)
          have hY2 : BoxV W2 (wr.heap.size + 1) (.int .u8 r1) (.int .u64 r2) (.string r3) (.slice r4 r5 r6) (.slice r7 (lb[i]'hlt2).l.length r9) := by
            rw [hW2e]
            have := heap_alloc_new (wr.alloc (Obj.cells #[.int .u8 p1, .int .u64 p2, .string p3, .slice p4 p5 p6, .slice p7 (la[i]'hlt).l.length p9] 31)) (Obj.cells #[.int .u8 r1, .int .u64 r2, .string r3, .slice r4 r5 r6, .slice r7 (lb[i]'hlt2).l.length r9] 31)
            rw [World.size_alloc] at this
            exact this
          rw [← hW2e]
          have HC := Lib.hid (HAL.out (la[i]'hlt) (lb[i]'hlt2) _ _ W2 (HA.out.kept hb2 (Nat.le_refl _)) (HB.out.kept hb2 (Nat.le_refl _)))
          have g0 := hX2.c0
          have g1 := hX2.c1
          have g2' := hX2.c2
          have g3 := hX2.c3
          have g4 := hX2.c4
          have q0 := hY2.c0
          have q1 := hY2.c1
          have q2 := hY2.c2
          have q3 := hY2.c3
          have q4 := hY2.c4
          have HX2 := Lib.hid hX2
          have HY2 := Lib.hid hY2
          have HW2 := Lib.hid hW2
          clear hW2e e0 e1 e2 e3' e4' f0 f1 f2 f3 f4 e0b e1b e2b e3b e4b t1b t1 hX2 hY2 hW2
          by_cases hal : alikeT (la[i]'hlt) (lb[i]'hlt2)
          case neg =>
            rw [decide_eq_false hal] at HC
            have hfin : R = false := by
              cases R with
              | false => rfl
              | true => exact absurd (HSA.out.1 ((HRS3.out.1 rfl).2 i hlt hlt2 (Nat.le_refl _))).1 hal
            subst hfin
            clear hal
            go_wp2_with fail
            refine HC.out.mono ?_
            rintro e w3 ⟨rfl, hb3⟩
            go_wp2_with fail
            go_ret
            exact ⟨rfl, hbr.trans ((hb2.trans (hb3.mono hb2.size)).mono hbr.size)⟩
          rw [decide_eq_true hal] at HC
          have HALK := Lib.hid hal
          clear hal
          go_wp2_with fail
          refine HC.out.mono ?_
          rintro e w3 ⟨rfl, hb3⟩
          have hb23 : Below wr.heap.size wr w3 := hb2.trans (hb3.mono hb2.size)
          have HX3 := HX2.out.kept hb3 (Nat.le_refl _)
          have HY3 := HY2.out.kept hb3 (Nat.le_refl _)
          have hs3 := hb3.size
          have x4 := HX3.c4
          have y4 := HY3.c4
          have hbw3 := hbr.trans (hb23.mono hbr.size)
          have hBox3 := (hb23.block wj.heap.size hsr).trans hBox2
          clear g0 g1 g2' g3 g4 q0 q1 q2 q3 q4
          by_cases hne : 0 < (la[i]'hlt).l.length
          · have hneI : (0 : Int) < ((la[i]'hlt).l.length : Int) := by omega
            have hW3 := HW2.out.below hb23
            obtain ⟨xs3, hown3, hsh3⟩ := hW3.row
            obtain ⟨hgb, hgl⟩ := hW3.lt
            have hn2 := hown3.len_.1
            have hS2 := hW3.len
            have hposS2 := tot_len S2 HPOS2.out
            have hcl := cntL_len (la[i]'hlt).l
            have hll : (la[i]'hlt).l.length = (lb[i]'hlt2).l.length := HALK.out.2.2.2.2
            have HLL := Lib.hid hll
            have hSH3 := Lib.hid hsh3
            clear hll hW3 hsh3
            go_wp2_with (at_builtin; refine wpList_appendW twinC _ rfl (.tmp 51) (.tmp 57) 182 rfl w.heap.size 181 (.agg #[.slice none 0 0, .slice none 0 0]) 48 Tryz.underlying182 infoTwin rfl (.slice (some ⟨g2, 0, none⟩) n2 cap2) xs3 rfl (hown3.alloc_ _) w3.heap.size (.slice (some ⟨w3.heap.size, 0, none⟩) 1 1) [⟨p7, (la[i]'hlt).l.length, p9, r7, (lb[i]'hlt2).l.length, r9⟩] rfl (ShowsG.lit (C := twinC) [⟨p7, (la[i]'hlt).l.length, p9, r7, (lb[i]'hlt2).l.length, r9⟩] (by simp [Code.all, twinC]) (by simp [maxLen])) (by simp) (by simp; omega) (by simp; omega) (by simp; have := hbw3.size; omega) ?_; intro v6 w6 ho6 hg6 hwh6)
            have hg6 : (w3.alloc (Obj.cells #[.slice p7 (la[i]'hlt).l.length p9, .slice r7 (lb[i]'hlt2).l.length r9] 181)).grownBy w6 (some g2) := hg6
            have hwh6 : v6.ownBlock = some g2 ∨ v6.ownBlock = some (w3.alloc (Obj.cells #[.slice p7 (la[i]'hlt).l.length p9, .slice r7 (lb[i]'hlt2).l.length r9] 181)).heap.size := hwh6
            have hlen6 : (xs3 ++ [(⟨p7, (la[i]'hlt).l.length, p9, r7, (lb[i]'hlt2).l.length, r9⟩ : Twin)]).length = n2 + 1 := by simp [hn2]
            obtain ⟨A6, c6, e6, _⟩ := ho6.form
            rw [hlen6] at e6
            subst e6
            obtain ⟨g6, e6, hg6b, hg6l, _⟩ := ho6.at_ (by omega)
            subst e6
            have hwh : g6 = g2 ∨ g6 = (w3.alloc (Obj.cells #[.slice p7 (la[i]'hlt).l.length p9, .slice r7 (lb[i]'hlt2).l.length r9] 181)).heap.size := by
              rcases hwh6 with h | h
              · exact .inl (Option.some.inj h)
              · exact .inr (Option.some.inj h)
            have hbA : Below w3.heap.size w3 (w3.alloc (Obj.cells #[.slice p7 (la[i]'hlt).l.length p9, .slice r7 (lb[i]'hlt2).l.length r9] 181)) := (Below.refl _ _).alloc (Nat.le_refl _) _
            have hS36 : Sub (pm (Oth g2) w3) (pm (Oth g6) w6) := one_left hbA hg6 hwh
            have hSr6 : Sub (pm (Oth g2) wr) (pm (Oth g6) w6) := (pm_below hb23).trans hS36
            have hW6 : Work w.heap.size w6 g6 (n2 + 1) c6 (S2 ++ [((la[i]'hlt).l, (lb[i]'hlt2).l)]) := by
              refine ⟨by simp [hS2], _, ho6, fun q h1 h2 => ?_⟩
              by_cases hq : q < S2.length
              · rw [List.getElem_append_left hq, List.getElem_append_left (by omega)]
                exact (hSH3.out q (by omega) hq).sub hS36
              · rw [List.getElem_append_right (by omega), List.getElem_append_right (by omega)]
                simp only [List.getElem_singleton]
                exact ⟨rfl, rfl, HLL.out, hne, HCL.out.sub hSr6, HCL2.out.sub hSr6⟩
            have hb6 : Below w.heap.size w w6 := (hbw3.trans (hbA.mono hbw3.size)).grown hg6 (by have := hbw3.size; simp; omega) (fun k hk => by have := Option.some.inj hk; omega)
            have hBox6 : w6.heap[wj.heap.size]? = _ := (hg6.block wj.heap.size (by have := hb23.size; simp; omega) (fun e => hgne (Option.some.inj e).symm)).trans ((hbA.block _ (by have := hb23.size; omega)).trans hBox3)
            have hgne6 : g6 ≠ wj.heap.size := by
              rcases hwh with rfl | rfl
              · exact hgne
              · have := hb23.size; simp; omega
            have HPOS6 : Hid (∀ p ∈ S2 ++ [((la[i]'hlt).l, (lb[i]'hlt2).l)], 0 < p.1.length) := Lib.hid (fun p hp => by
              rcases List.mem_append.1 hp with hp | hp
              · exact HPOS2.out p hp
              · simp at hp; subst hp; exact hne)
            have HRS6 : Hid (R = true ↔ (allSame (S2 ++ [((la[i]'hlt).l, (lb[i]'hlt2).l)]) ∧ ∀ q (h1 : q < la.length) (h2 : q < lb.length), i + 1 ≤ q → sameT la[q] lb[q] = true)) := Lib.hid (by
              rw [HRS3.out]
              constructor
              · rintro ⟨h1, h2⟩
                refine ⟨fun p hp => ?_, fun q a1 b1 hq => h2 q a1 b1 (by omega)⟩
                rcases List.mem_append.1 hp with hp | hp
                · exact h1 p hp
                · simp at hp; subst hp; exact (HSA.out.1 (h2 i hlt hlt2 (Nat.le_refl _))).2
              · rintro ⟨h1, h2⟩
                refine ⟨fun p hp => h1 p (by simp [hp]), fun q a1 b1 hq => ?_⟩
                by_cases hqi : q = i
                · subst hqi
                  exact HSA.out.2 ⟨HALK.out, h1 (_, _) (List.mem_append.2 (.inr (List.mem_singleton.2 rfl)))⟩
                · exact h2 q a1 b1 (by omega))
            have htot6 : tot (S2 ++ [((la[i]'hlt).l, (lb[i]'hlt2).l)]) + cntL (la.drop (i + 1)) + (i + 1) ≤ gk := by
              rw [tot_append]; simp only [tot]; omega
            have HF := Lib.hid (And.intro hW6 (And.intro (hL1r.out.sub hSr6) (And.intro (hL2r.out.sub hSr6) (And.intro htot6 (And.intro hb6 (And.intro hBox6 hgne6))))))
            clear hW6 htot6 hb6 hBox6 hgne6
            go_roundw
            case rel => exact ⟨i + 1, g6, n2 + 1, c6, _, by omega, by go_num, rfl, HF.out.1, Lib.hid HF.out.2.1, Lib.hid HF.out.2.2.1, HF.out.2.2.2.1, HF.out.2.2.2.2.1, HF.out.2.2.2.2.2.1, HF.out.2.2.2.2.2.2, HPOS6, HRS6⟩
            case measure => simp [intOf]; omega
          · have hne0 : (la[i]'hlt).l.length = 0 := by omega
            have hneI : ¬ (0 : Int) < ((la[i]'hlt).l.length : Int) := by omega
            have hcl0 : cntL (la[i]'hlt).l = 0 := by rw [List.eq_nil_of_length_eq_zero hne0]; rfl
            have HRS6 : Hid (R = true ↔ (allSame S2 ∧ ∀ q (h1 : q < la.length) (h2 : q < lb.length), i + 1 ≤ q → sameT la[q] lb[q] = true)) := Lib.hid (by
              rw [HRS3.out]
              constructor
              · rintro ⟨h1, h2⟩
                exact ⟨h1, fun q a1 b1 hq => h2 q a1 b1 (by omega)⟩
              · rintro ⟨h1, h2⟩
                refine ⟨h1, fun q a1 b1 hq => ?_⟩
                by_cases hqi : q = i
                · subst hqi
                  refine HSA.out.2 ⟨HALK.out, ?_⟩
                  have e1 := List.eq_nil_of_length_eq_zero hne0
                  rw [e1]
                  exact sameL_nil (by rw [← HALK.out.2.2.2.2, hne0])
                · exact h2 q a1 b1 (by omega))
            have HF := Lib.hid (And.intro (HW2.out.below hb23) (And.intro (hL1r.out.sub (pm_below hb23)) (hL2r.out.sub (pm_below hb23))))
            clear hne0
            go_wp2_with fail
            go_roundw
            case rel => exact ⟨i + 1, g2, n2, cap2, S2, by omega, by go_num, rfl, HF.out.1, Lib.hid HF.out.2.1, Lib.hid HF.out.2.2, by omega, hbw3, hBox3, hgne, HPOS2, HRS6⟩
            case measure => simp [intOf]; omega
        · have hil : ¬ (i : Int) < (la.length : Int) := by omega
          have HRS6 : Hid (R = true ↔ allSame S2) := Lib.hid (by
            rw [HRS3.out]
            exact ⟨fun h => h.1, fun h => ⟨h, fun q a1 b1 hq => absurd a1 (by omega)⟩⟩)
          have hkk : tot S2 < gk := by omega
          go_wp2_with fail
          go_roundg (tot S2)
          case rel => exact ⟨g2, n2, cap2, S2, rfl, hW2, Nat.le_refl _, by omega, hbr, HRS6, HPOS2⟩
          case measure => exact hkk
    · have hn0 : n = 0 := by omega
      subst hn0
      have hS0 : S = [] := List.eq_nil_of_length_eq_zero hW.len
      subst hS0
      have hfin : R = true := HRS.out.2 (fun p hp => absurd hp (by simp))
      subst hfin
      go_wp2_with fail
      go_ret
      exact ⟨rfl, hbj⟩

end Go.Proofs.YtpmafabphlejeaaGreat
