/-
  Texts, together: Ref03A, Ref03E.
  Conditions: none but sizes.
-/
import Derived.Deep.QuietTactic
import Derived.BigQuiet
import Derived.Laws.StructEq
import Derived.Test.YtnafibnhmhbfiabPZ
import Derived.Test.YtnafibnhmhbfiabBigZ
import Derived.Test.YtnafibnhmhbfiabSpansTZ
import Derived.Test.YtnafibnhmhbfiabOctBigZ
/-
  The contracts of the document's Right, in, Has, Count, Same and Copy of spans.
  Conditions: the numbers are of 32 bits; at most 2^44 spans.
-/
namespace Go.Proofs.Ytnafibnhmhbfiab
open Go.RowKit
set_option linter.unusedVariables false
set_option linter.unusedSimpArgs false

/-- Spans as they lie in memory. -/
abbrev spanC : Code Sp := pairC .u32
/-- All numbers are of 32 bits. -/
def u32s (l : List Sp) : Prop := ∀ s ∈ l, s.1 < 4294967296 ∧ s.2 < 4294967296
theorem u32s_get {l : List Sp} (h : u32s l) {k : Nat} (hk : k < l.length) : l[k].1 < 4294967296 ∧ l[k].2 < 4294967296 := h _ (List.getElem_mem hk)
theorem span_cell1 {w : World} {d o : Nat} {l : List Sp} (h : ∀ j (h : j < l.length) k, k < spanC.sz → w.cell? ⟨d, o + (j * spanC.sz + k), none⟩ = (spanC.enc l[j])[k]?) {k : Nat} (hk : k < l.length) : w.cell? ⟨d, o + k * 2, none⟩ = some (.int .u32 (l[k].1 : Nat)) := h k hk 0 (by decide)
theorem span_cell2 {w : World} {d o : Nat} {l : List Sp} (h : ∀ j (h : j < l.length) k, k < spanC.sz → w.cell? ⟨d, o + (j * spanC.sz + k), none⟩ = (spanC.enc l[j])[k]?) {k : Nat} (hk : k < l.length) : w.cell? ⟨d, o + k * 2 + 1, none⟩ = some (.int .u32 (l[k].2 : Nat)) := h k hk 1 (by decide)

theorem memS_iff_get (l : List Sp) (n : Nat) : memS l n ↔ ∃ j, ∃ h : j < l.length, l[j].1 ≤ n ∧ n ≤ l[j].2 := by
  constructor
  · rintro ⟨s, hs, h⟩
    obtain ⟨j, hj, rfl⟩ := List.getElem_of_mem hs
    exact ⟨j, hj, h⟩
  · rintro ⟨j, hj, h⟩
    exact ⟨l[j], List.getElem_mem hj, h⟩

theorem qcopy_any (A : Option Addr) (c n d : Nat) (l : List Sp) (w : World) (hn : l.length = n) (hl : ShowsG spanC w d (.slice A n c) l) (hb : n ≤ 17592186044416) :
    Calls Try.prog 38 #[.slice A n c] w fun e w' => ∃ v, e = .returned v ∧ OwnG spanC 124 w' w.heap.size v l ∧ Below w.heap.size w w' := by
  go_enter Try.func38, Try.ntmps38
  go_wp2_with (at_builtin
               refine wpList_appendG spanC _ rfl (.tmp 4) (.tmp 5) 85 rfl w.heap.size 124 (.agg #[.int .u32 0, .int .u32 0]) 8 Try.underlying85 (by kernel_rfl) rfl (.slice none 0 0) [] rfl (OwnG.nil_ _ _ _ _) d _ l rfl hl (by simp; omega) (by simp; omega) (Nat.le_refl _) ?_
               intro v1 w1 ho1 hg1
               rw [List.nil_append] at ho1)
  go_ret
  exact ⟨_, rfl, ho1, (Below.refl _ _).grown hg1 (Nat.le_refl _) (by simp [Value.ownBlock])⟩

theorem spanGuard : Try.prog.eqGuardType Try.prog.depth 124 = false := by kernel_rfl
theorem spanFields : Try.prog.underlying 124 = some (.struct (Try.prog.fieldsOf 124)) := by kernel_rfl
theorem spanHeld : Try.prog.stoodInHeld 124 = false := by kernel_rfl
theorem run_eq_span (a b c d : Nat) (w : World) : (Op.equalIn 10000 124 (.agg #[.int .u32 (a : Int), .int .u32 (b : Int)]) (.agg #[.int .u32 (c : Int), .int .u32 (d : Int)])).run Try.prog w = .ok (decide ((a, b) = (c, d))) w := by
  rw [run_equalIn_agg w 9999 124 _ _ spanFields spanHeld]
  have hm : (Try.prog.fieldsOf 124).toList.map (fun f => (f.type, f.offset, f.name == "_")) = [(82, 0, false), (82, 1, false)] := by kernel_rfl
  generalize (Try.prog.fieldsOf 124).toList = fs at hm ⊢
  obtain ⟨f, t, rfl, hf, ht⟩ := List.map_eq_cons_iff.1 hm
  obtain ⟨g, t2, rfl, hg, ht2⟩ := List.map_eq_cons_iff.1 ht
  obtain rfl : t2 = [] := List.map_eq_nil_iff.1 ht2
  simp only [Prod.mk.injEq] at hf hg
  obtain ⟨f1, f2, f3⟩ := hf
  obtain ⟨g1, g2, g3⟩ := hg
  have f4 : ¬ f.name = "_" := by simpa using f3
  have g4 : ¬ g.name = "_" := by simpa using g3
  have e1 : ∀ x y : Nat, (Op.equalIn 9999 82 (.int .u32 (x : Int)) (.int .u32 (y : Int))).run Try.prog w = .ok ((x : Int) == (y : Int)) w := fun x y => run_equalIn_int w 9998 82 .u32 .u32 _ _ Try.underlying82
  by_cases h1 : a = c
  · by_cases h2 : b = d
    · simp [Op.eqFields, part, f1, f2, f4, g1, g2, g4, e1, h1, h2]
    · simp [Op.eqFields, part, f1, f2, f4, g1, g2, g4, e1, h1, h2]; omega
  · simp [Op.eqFields, part, f1, f2, f4, g1, g2, g4, e1, h1]; intro h; omega

set_option maxHeartbeats 400000 in
theorem qsame_any (A1 A2 : Option Addr) (c1 c2 n1 n2 d1 d2 : Nat) (l m : List Sp) (w : World) (hn1 : l.length = n1) (hn2 : m.length = n2) (hl : ShowsG spanC w d1 (.slice A1 n1 c1) l) (hm : ShowsG spanC w d2 (.slice A2 n2 c2) m) (hb : n1 ≤ 17592186044416) (hb2 : n2 ≤ 17592186044416) :
    Calls Try.prog 58 #[.slice A1 n1 c1, .slice A2 n2 c2] w fun e w' => e = .returned (.bool (decide (l = m))) ∧ ∃ q, w' = w.drewN q := by
  subst hn1
  subst hn2
  by_cases hlen : l.length = m.length
  · go_enter Try.func58, Try.ntmps58
    have hne : ((l.length : Int) != (m.length : Int)) = false := by simp; omega
    go_wp2_with fail
    go_loopw [5] (fun i wr => ∃ k q : Nat, k ≤ l.length ∧ i = .int .i64 k ∧ wr = w.drewN q ∧ l.take k = m.take k) (fun i _ => l.length - (intOf i).toNat)
    case atStart => exact ⟨0, 0, Nat.zero_le _, rfl, rfl, rfl⟩
    case round =>
      obtain ⟨k, q, hk, rfl, rfl, hsame⟩ := hrel
      by_cases hlt : k < l.length
      · have hlt2 : k < m.length := by omega
        obtain ⟨o, rfl, _, hcl⟩ := hl.at_ (by omega)
        obtain ⟨o', rfl, _, hcm⟩ := hm.at_ (by omega)
        have e1 := span_cell1 hcl hlt
        have e2 := span_cell2 hcl hlt
        have e3 := span_cell1 hcm hlt2
        have e4 := span_cell2 hcm hlt2
        have hkl : (k : Int) < (l.length : Int) := by omega
        have hkm : (k : Int) < (m.length : Int) := by omega
        have hG := spanGuard
        have hE := run_eq_span
        have hstep : l[k] = m[k] → l.take (k + 1) = m.take (k + 1) := fun h => by
          rw [List.take_succ_eq_append_getElem hlt, List.take_succ_eq_append_getElem hlt2, hsame, h]
        by_cases heq : l[k] = m[k]
        · have HS := Lib.hid (hstep heq)
          have hd : decide ((l[k].1, l[k].2) = (m[k].1, m[k].2)) = true := by rw [heq]; simp
          have E := Lib.hid hE
          generalize l[k].1 = a at *
          generalize l[k].2 = b at *
          generalize m[k].1 = a' at *
          generalize m[k].2 = b' at *
          have hE2 := fun w => E.out a b a' b' w
          rw [hd] at hE2
          clear hcl hcm hE heq hstep hsame hd
          go_wp2_with fail
          go_quiet (fail)
          go_wp2_with fail
          go_roundw
          case rel => exact ⟨k + 1, _, by omega, by go_num, rfl, HS.out⟩
          case measure => simp [intOf]; omega
        · have hfin : decide (l = m) = false := by
            simp
            rintro rfl
            exact heq rfl
          have hd : decide ((l[k].1, l[k].2) = (m[k].1, m[k].2)) = false := by
            simp
            intro h1 h2
            exact heq (Prod.ext h1 h2)
          have E := Lib.hid hE
          generalize l[k].1 = a at *
          generalize l[k].2 = b at *
          generalize m[k].1 = a' at *
          generalize m[k].2 = b' at *
          have hE2 := fun w => E.out a b a' b' w
          rw [hd] at hE2
          clear hcl hcm hE heq hstep hsame hd
          go_wp2_with fail
          go_quiet (fail)
          go_wp2_with fail
          go_ret
          exact ⟨by first | rfl | (rw [hfin]; rfl), q + nq, World.drewN_drewN _ _ _⟩
      · have hfin : decide (l = m) = true := by
          rw [List.take_of_length_le (by omega), List.take_of_length_le (by omega)] at hsame
          simpa using hsame
        clear hsame
        go_wp2_with fail
        go_ret
        exact ⟨by first | rfl | (rw [hfin]; rfl), q, rfl⟩
  · have hfin : decide (l = m) = false := by
      simp
      rintro rfl
      exact hlen rfl
    have hne : ((l.length : Int) != (m.length : Int)) = true := by simp; omega
    go_enter Try.func58, Try.ntmps58
    go_wp2_with fail
    go_ret
    exact ⟨by first | rfl | (rw [hfin]; rfl), 0, rfl⟩

theorem cnt_le (p : Nat → Bool) : ∀ N, cnt p N ≤ N
  | 0 => Nat.le_refl _
  | N + 1 => by rw [cnt]; have := cnt_le p N; split <;> omega
theorem cntS_append : ∀ (a b : List Sp), cntS (a ++ b) = cntS a + cntS b
  | [], b => by simp [cntS]
  | s :: a, b => by rw [List.cons_append, cntS, cntS, cntS_append a b]; omega
theorem cntS_take (l : List Sp) (k : Nat) (h : k < l.length) : cntS (l.take (k + 1)) = cntS (l.take k) + (l[k].2 - l[k].1 + 1) := by
  rw [List.take_succ_eq_append_getElem h, cntS_append]
  simp [cntS]
theorem cntS_take_le (l : List Sp) (k : Nat) : cntS (l.take k) ≤ cntS l := by
  have := cntS_append (l.take k) (l.drop k)
  rw [List.take_append_drop] at this
  omega
theorem cntS_le (l : List Sp) (hc : canon l) (hu : u32s l) : cntS l ≤ 4294967296 := by
  rw [cntS_eq 4294967296 hc fun s hs => (hu s hs).2]
  exact cnt_le _ _

end Go.Proofs.Ytnafibnhmhbfiab
/-
  The contract of the document's Put of spans.
  Conditions: the numbers are of 32 bits; at most 2^37 spans.
-/
namespace Go.Proofs.Ytnafibnhmhbfiab
open Go.RowKit
set_option linter.unusedVariables false
set_option linter.unusedSimpArgs false

/-- A list's encoding. -/
def encS (l : List Sp) : List UInt8 := be 2 (8 * l.length) ++ l.flatMap fun s => be 4 s.1 ++ be 4 s.2
def PutSaid (l : List Sp) (code : Int) (r : List UInt8) : Prop :=
  (canon l ∧ l.length ≤ 1000 ∧ code = 0 ∧ r = encS l) ∨ (¬ canon l ∧ code = 30 ∧ r = []) ∨ (canon l ∧ ¬ l.length ≤ 1000 ∧ code = 6 ∧ r = [])
theorem encS_length_le (l : List Sp) : (l.flatMap fun s => be 4 s.1 ++ be 4 s.2).length = 8 * l.length := by
  induction l with
  | nil => rfl
  | cons s l ih => simp [be_length] at ih ⊢; omega
theorem flat_take (l : List Sp) (k : Nat) (h : k < l.length) : ((l.take (k + 1)).flatMap fun s => be 4 s.1 ++ be 4 s.2) = ((l.take k).flatMap fun s => be 4 s.1 ++ be 4 s.2) ++ be 4 l[k].1 ++ be 4 l[k].2 := by
  rw [List.take_succ_eq_append_getElem h, List.flatMap_append, List.append_assoc]
  simp

end Go.Proofs.Ytnafibnhmhbfiab
