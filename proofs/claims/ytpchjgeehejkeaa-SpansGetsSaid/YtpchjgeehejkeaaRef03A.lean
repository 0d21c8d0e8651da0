/-
  The contracts of the document's Right, in, Has, Count, Same and Copy of spans.
  Conditions: the numbers are of 32 bits; at most 2^44 spans.
-/
import Derived.Test.YtpchjgeehejkeaaP
import Derived.Test.YtpchjgeehejkeaaGen
import Derived.Test.YtpchjgeehejkeaaSpansT
import Derived.Deep.QuietTactic
import Derived.BigQuiet
import Derived.Laws.StructEq
namespace Go.Proofs.Ytpchjgeehejkeaa
open Go.RowKit
set_option linter.unusedVariables false
set_option linter.unusedSimpArgs false

/-- Spans as they lie in memory. -/
abbrev spanC : Code Sp := pairC .u32
/-- All numbers are of 32 bits. -/
def u32s (l : List Sp) : Prop := ∀ s ∈ l, s.1 < 4294967296 ∧ s.2 < 4294967296
theorem u32s_get {l : List Sp} (h : u32s l) {k : Nat} (hk : k < l.length) : l[k].1 < 4294967296 ∧ l[k].2 < 4294967296 := h _ (List.getElem_mem hk)
theorem span_cell1 {w : World} {d o : Nat} {l : List Sp} (h : ∀ j (h : j < l.length) k, k < spanC.sz → w.cell? ⟨d, o + (j * spanC.sz + k), none⟩ = (spanC.enc l[j])[k]?) {k : Nat} (hk : k < l.length) : w.cell? ⟨d, o + k * 2, none⟩ = some (.int .u32 (l[k].1 : Nat)) := h k hk 0 (by decide)
theorem span_cell2 {w : World} {d o : Nat} {l : List Sp} (h : ∀ j (h : j < l.length) k, k < spanC.sz → w.cell? ⟨d, o + (j * spanC.sz + k), none⟩ = (spanC.enc l[j])[k]?) {k : Nat} (hk : k < l.length) : w.cell? ⟨d, o + k * 2 + 1, none⟩ = some (.int .u32 (l[k].2 : Nat)) := h k hk 1 (by decide)

set_option maxHeartbeats 400000 in
theorem qright_any (A : Option Addr) (c n d : Nat) (l : List Sp) (w : World) (hn : l.length = n) (hl : ShowsG spanC w d (.slice A n c) l) (hu : u32s l) (hb : n ≤ 17592186044416) :
    Calls Try.prog 12 #[.slice A n c] w fun e w' => e = .returned (.bool (decide (canon l))) ∧ ∃ m, w' = w.drewN m := by
  subst hn
  have HC := canon_iff l
  go_enter Try.func12, Try.ntmps12
  go_wp2_with fail
  go_loopw [3] (fun i wr => ∃ k q : Nat, k ≤ l.length ∧ i = .int .i64 k ∧ wr = w.drewN q ∧ ∀ j (h : j < l.length), j < k → l[j].1 ≤ l[j].2 ∧ (0 < j → ∀ (h' : j - 1 < l.length), l[j - 1].2 + 2 ≤ l[j].1)) (fun i _ => l.length - (intOf i).toNat)
  case atStart => exact ⟨0, 0, Nat.zero_le _, rfl, rfl, fun j _ h => absurd h (by omega)⟩
  case round =>
    obtain ⟨k, q, hk, rfl, rfl, hok⟩ := hrel
    by_cases hlt : k < l.length
    · obtain ⟨o, rfl, _, hcl⟩ := hl.at_ (by omega)
      have c1 := span_cell1 hcl hlt
      have c2 := span_cell2 hcl hlt
      obtain ⟨b1, b2⟩ := u32s_get hu hlt
      have hkl : (k : Int) < (l.length : Int) := by omega
      have hbad : (l[k].1 ≤ l[k].2 ∧ (0 < k → ∀ (h' : k - 1 < l.length), l[k - 1].2 + 2 ≤ l[k].1)) ∨ decide (canon l) = false := by
        by_cases hc : canon l
        · exact .inl (HC.1 hc k hlt)
        · exact .inr (by simp [hc])
      by_cases h1 : l[k].2 < l[k].1
      · have hd : decide (((l[k].2 : Nat) : Int) < ((l[k].1 : Nat) : Int)) = true := by simp; omega
        have hfin : decide (canon l) = false := by
          rcases hbad with h | h
          · omega
          · exact h
        generalize l[k].1 = a at *
        generalize l[k].2 = b at *
        clear hok hbad hcl HC b1 b2
        go_wp2_with fail
        go_quiet (fail)
        go_wp2_with fail
        go_ret
        exact ⟨by first | rfl | (rw [hfin]; rfl), q + nq, World.drewN_drewN _ _ _⟩
      · have hd : decide (((l[k].2 : Nat) : Int) < ((l[k].1 : Nat) : Int)) = false := by simp; omega
        by_cases hk0 : k = 0
        · subst hk0
          have hstep : ∀ j (h : j < l.length), j < 0 + 1 → l[j].1 ≤ l[j].2 ∧ (0 < j → ∀ (h' : j - 1 < l.length), l[j - 1].2 + 2 ≤ l[j].1) := fun j hj hj1 => by
            obtain rfl : j = 0 := by omega
            exact ⟨by omega, fun h => absurd h (by omega)⟩
          have HST := Lib.hid hstep
          generalize l[0].1 = a at *
          generalize l[0].2 = b at *
          clear hok hbad hcl HC b1 b2 hstep
          rw [Nat.zero_mul, Nat.add_zero] at c1 c2
          go_wp2_with fail
          go_quiet (fail)
          go_wp2_with fail
          go_quiet (fail)
          go_wp2_with fail
          go_roundw
          case rel => exact ⟨1, _, by omega, rfl, rfl, HST.out⟩
          case measure => simp [intOf]; omega
        · obtain ⟨j, rfl⟩ : ∃ j, k = j + 1 := ⟨k - 1, by omega⟩
          have hj : j < l.length := by omega
          have c3 := span_cell2 hcl hj
          obtain ⟨b3, b4⟩ := u32s_get hu hj
          have hjl : (j : Int) < (l.length : Int) := by omega
          have hjl1 : (j : Int) + 1 < (l.length : Int) := by omega
          by_cases h2 : l[j + 1].1 < l[j].2 + 2
          · have hd2 : decide (((l[j + 1].1 : Nat) : Int) < ((l[j].2 : Nat) : Int) + 2) = true := by simp; omega
            have hfin : decide (canon l) = false := by
              rcases hbad with h | h
              · have := h.2 (by omega) (by omega); simp at this; omega
              · exact h
            generalize l[j + 1].1 = a at *
            generalize l[j + 1].2 = b at *
            generalize l[j].2 = e at *
            clear hok hbad hcl HC
            go_wp2_with fail
            go_quiet (fail)
            go_wp2_with fail
            go_quiet (fail)
            go_wp2_with fail
            go_ret
            exact ⟨by first | rfl | (rw [hfin]; rfl), _, by rw [World.drewN_drewN, World.drewN_drewN]⟩
          · have hd2 : decide (((l[j + 1].1 : Nat) : Int) < ((l[j].2 : Nat) : Int) + 2) = false := by simp; omega
            have hstep : ∀ i (h : i < l.length), i < j + 1 + 1 → l[i].1 ≤ l[i].2 ∧ (0 < i → ∀ (h' : i - 1 < l.length), l[i - 1].2 + 2 ≤ l[i].1) := fun i hi hij => by
              by_cases hij2 : i < j + 1
              · exact hok i hi hij2
              · obtain rfl : i = j + 1 := by omega
                exact ⟨by omega, fun _ _ => by simp; omega⟩
            have HST := Lib.hid hstep
            generalize l[j + 1].1 = a at *
            generalize l[j + 1].2 = b at *
            generalize l[j].2 = e at *
            clear hok hbad hcl HC hstep
            go_wp2_with fail
            go_quiet (fail)
            go_wp2_with fail
            go_quiet (fail)
            go_wp2_with fail
            go_roundw
            case rel => exact ⟨j + 1 + 1, _, by omega, by go_num, rfl, HST.out⟩
            case measure => simp [intOf]; omega
    · have hfin : decide (canon l) = true := by simp [HC.2 fun k h => hok k h (by omega)]
      clear hok HC
      go_wp2_with fail
      go_ret
      exact ⟨by first | rfl | (rw [hfin]; rfl), q, rfl⟩

theorem memS_iff_get (l : List Sp) (n : Nat) : memS l n ↔ ∃ j, ∃ h : j < l.length, l[j].1 ≤ n ∧ n ≤ l[j].2 := by
  constructor
  · rintro ⟨s, hs, h⟩
    obtain ⟨j, hj, rfl⟩ := List.getElem_of_mem hs
    exact ⟨j, hj, h⟩
  · rintro ⟨j, hj, h⟩
    exact ⟨l[j], List.getElem_mem hj, h⟩

set_option maxHeartbeats 400000 in
theorem qin_any (A : Option Addr) (c n d x : Nat) (l : List Sp) (w : World) (hn : l.length = n) (hl : ShowsG spanC w d (.slice A n c) l) (hu : u32s l) (hb : n ≤ 17592186044416) :
    Calls Try.prog 30 #[.slice A n c, .int .u64 x] w fun e w' => e = .returned (.bool (decide (memS l x))) ∧ w = w' := by
  subst hn
  go_enter Try.func30, Try.ntmps30
  go_wp2_with fail
  go_loop [5] (fun i => ∃ k : Nat, k ≤ l.length ∧ i = .int .i64 k ∧ ∀ j (h : j < l.length), j < k → ¬ (l[j].1 ≤ x ∧ x ≤ l[j].2)) (fun i => l.length - (intOf i).toNat)
  case atStart => exact ⟨0, Nat.zero_le _, rfl, fun j _ h => absurd h (by omega)⟩
  case round =>
    obtain ⟨k, hk, rfl, hno⟩ := hrel
    by_cases hlt : k < l.length
    · obtain ⟨o, rfl, _, hcl⟩ := hl.at_ (by omega)
      have c1 := span_cell1 hcl hlt
      have c2 := span_cell2 hcl hlt
      obtain ⟨b1, b2⟩ := u32s_get hu hlt
      have hkl : (k : Int) < (l.length : Int) := by omega
      by_cases h1 : l[k].1 ≤ x
      · by_cases h2 : x ≤ l[k].2
        · have hfin : decide (memS l x) = true := decide_eq_true ((memS_iff_get l x).2 ⟨k, hlt, h1, h2⟩)
          have h1' : ((l[k].1 : Nat) : Int) ≤ (x : Int) := by omega
          have h2' : (x : Int) ≤ ((l[k].2 : Nat) : Int) := by omega
          generalize l[k].1 = a at *
          generalize l[k].2 = b at *
          clear hno hcl
          go_wp2_with fail
          go_ret
          exact ⟨by first | rfl | (rw [hfin]; rfl), rfl⟩
        · have hstep : ∀ j (h : j < l.length), j < k + 1 → ¬ (l[j].1 ≤ x ∧ x ≤ l[j].2) := fun j hj hjk => by
            by_cases hjk2 : j < k
            · exact hno j hj hjk2
            · obtain rfl : j = k := by omega
              exact fun h => h2 h.2
          have HST := Lib.hid hstep
          have h1' : ((l[k].1 : Nat) : Int) ≤ (x : Int) := by omega
          have h2' : decide ((x : Int) ≤ ((l[k].2 : Nat) : Int)) = false := by simp; omega
          generalize l[k].1 = a at *
          generalize l[k].2 = b at *
          clear hno hcl hstep
          go_wp2_with fail
          go_round
          case rel => exact ⟨k + 1, by omega, by go_num, HST.out⟩
          case measure => simp [intOf]; omega
      · have hstep : ∀ j (h : j < l.length), j < k + 1 → ¬ (l[j].1 ≤ x ∧ x ≤ l[j].2) := fun j hj hjk => by
          by_cases hjk2 : j < k
          · exact hno j hj hjk2
          · obtain rfl : j = k := by omega
            exact fun h => h1 h.1
        have HST := Lib.hid hstep
        have h1' : decide (((l[k].1 : Nat) : Int) ≤ (x : Int)) = false := by simp; omega
        generalize l[k].1 = a at *
        generalize l[k].2 = b at *
        clear hno hcl hstep
        go_wp2_with fail
        go_round
        case rel => exact ⟨k + 1, by omega, by go_num, HST.out⟩
        case measure => simp [intOf]; omega
    · have hfin : decide (memS l x) = false := decide_eq_false fun h => by
        obtain ⟨j, hj, h⟩ := (memS_iff_get l x).1 h
        exact hno j hj (by omega) h
      clear hno
      go_wp2_with fail
      go_ret
      exact ⟨by first | rfl | (rw [hfin]; rfl), rfl⟩

theorem qhas_any (A : Option Addr) (c n d x : Nat) (l : List Sp) (w : World) (hn : l.length = n) (hl : ShowsG spanC w d (.slice A n c) l) (hu : u32s l) (hb : n ≤ 17592186044416) (hx : x < 4294967296) :
    Calls Try.prog 14 #[.slice A n c, .int .u32 x] w fun e w' => e = .returned (.bool (decide (canon l) && decide (memS l x))) ∧ ∃ m, w' = w.drewN m := by
  have hr := Lib.hid (qright_any A c n d l w hn hl hu hb)
  have hi := Lib.hid (fun q => qin_any A c n d x l (w.drewN q) hn (hl.drewN q) hu hb)
  have hx' : (x : Int) < 18446744073709551616 := by omega
  by_cases hc : canon l
  · rw [show decide (canon l) = true by simpa using hc] at hr ⊢
    rw [Bool.true_and]
    go_enter Try.func14, Try.ntmps14
    go_wp2_with fail
    refine hr.out.mono ?_
    rintro e w' ⟨rfl, m, rfl⟩
    go_wp2_with fail
    refine (hi.out m).mono ?_
    rintro e w' ⟨rfl, rfl⟩
    go_wp2_with fail
    go_ret
    exact ⟨rfl, m, rfl⟩
  · rw [show decide (canon l) = false by simpa using hc] at hr ⊢
    rw [Bool.false_and]
    go_enter Try.func14, Try.ntmps14
    go_wp2_with fail
    refine hr.out.mono ?_
    rintro e w' ⟨rfl, m, rfl⟩
    go_wp2_with fail
    go_ret
    exact ⟨rfl, m, rfl⟩

theorem qcopy_any (A : Option Addr) (c n d : Nat) (l : List Sp) (w : World) (hn : l.length = n) (hl : ShowsG spanC w d (.slice A n c) l) (hb : n ≤ 17592186044416) :
    Calls Try.prog 17 #[.slice A n c] w fun e w' => ∃ v, e = .returned v ∧ OwnG spanC 37 w' w.heap.size v l ∧ Below w.heap.size w w' := by
  go_enter Try.func17, Try.ntmps17
  go_wp2_with (at_builtin
               refine wpList_appendG spanC _ rfl (.tmp 4) (.tmp 5) 22 rfl w.heap.size 37 (.agg #[.int .u32 0, .int .u32 0]) 8 Try.underlying22 (by kernel_rfl) rfl (.slice none 0 0) [] rfl (OwnG.nil_ _ _ _ _) d _ l rfl hl (by simp; omega) (by simp; omega) (Nat.le_refl _) ?_
               intro v1 w1 ho1 hg1
               rw [List.nil_append] at ho1)
  go_ret
  exact ⟨_, rfl, ho1, (Below.refl _ _).grown hg1 (Nat.le_refl _) (by simp [Value.ownBlock])⟩

theorem spanGuard : Try.prog.eqGuardType Try.prog.depth 37 = false := by kernel_rfl
theorem spanFields : Try.prog.underlying 37 = some (.struct (Try.prog.fieldsOf 37)) := by kernel_rfl
theorem spanHeld : Try.prog.stoodInHeld 37 = false := by kernel_rfl
theorem run_eq_span (a b c d : Nat) (w : World) : (Op.equalIn 10000 37 (.agg #[.int .u32 (a : Int), .int .u32 (b : Int)]) (.agg #[.int .u32 (c : Int), .int .u32 (d : Int)])).run Try.prog w = .ok (decide ((a, b) = (c, d))) w := by
  rw [run_equalIn_agg w 9999 37 _ _ spanFields spanHeld]
  have hm : (Try.prog.fieldsOf 37).toList.map (fun f => (f.type, f.offset, f.name == "_")) = [(23, 0, false), (23, 1, false)] := by kernel_rfl
  generalize (Try.prog.fieldsOf 37).toList = fs at hm ⊢
  obtain ⟨f, t, rfl, hf, ht⟩ := List.map_eq_cons_iff.1 hm
  obtain ⟨g, t2, rfl, hg, ht2⟩ := List.map_eq_cons_iff.1 ht
  obtain rfl : t2 = [] := List.map_eq_nil_iff.1 ht2
  simp only [Prod.mk.injEq] at hf hg
  obtain ⟨f1, f2, f3⟩ := hf
  obtain ⟨g1, g2, g3⟩ := hg
  have f4 : ¬ f.name = "_" := by simpa using f3
  have g4 : ¬ g.name = "_" := by simpa using g3
  have e1 : ∀ x y : Nat, (Op.equalIn 9999 23 (.int .u32 (x : Int)) (.int .u32 (y : Int))).run Try.prog w = .ok ((x : Int) == (y : Int)) w := fun x y => run_equalIn_int w 9998 23 .u32 .u32 _ _ Try.underlying23
  by_cases h1 : a = c
  · by_cases h2 : b = d
    · simp [Op.eqFields, part, f1, f2, f4, g1, g2, g4, e1, h1, h2]
    · simp [Op.eqFields, part, f1, f2, f4, g1, g2, g4, e1, h1, h2]; omega
  · simp [Op.eqFields, part, f1, f2, f4, g1, g2, g4, e1, h1]; intro h; omega

set_option maxHeartbeats 400000 in
theorem qsame_any (A1 A2 : Option Addr) (c1 c2 n1 n2 d1 d2 : Nat) (l m : List Sp) (w : World) (hn1 : l.length = n1) (hn2 : m.length = n2) (hl : ShowsG spanC w d1 (.slice A1 n1 c1) l) (hm : ShowsG spanC w d2 (.slice A2 n2 c2) m) (hb : n1 ≤ 17592186044416) (hb2 : n2 ≤ 17592186044416) :
    Calls Try.prog 21 #[.slice A1 n1 c1, .slice A2 n2 c2] w fun e w' => e = .returned (.bool (decide (l = m))) ∧ ∃ q, w' = w.drewN q := by
  subst hn1
  subst hn2
  by_cases hlen : l.length = m.length
  · go_enter Try.func21, Try.ntmps21
    have hne : ((l.length : Int) != (m.length : Int)) = false := by simp; omega
    go_wp2_with fail
    go_loopw [5] (fun i wr => ∃ k q : Nat, k ≤ l.length ∧ i = .int .i64 k ∧ wr = w.drewN q ∧ l.take k = m.take k) (fun i _ => l.length - (intOf i).toNat)
    case atStart => exact ⟨0, 0, Nat.zero_le _, rfl, rfl, rfl⟩
    case round =>
      obtain ⟨k, q, hk, rfl, rfl, hsame⟩ := hrel
      by_cases hlt : k < l.length
      · have hlt2 : k < m.length := by omega
        obtain ⟨o, rfl, _, hcl⟩ := hl.at_ (by omega)
        obtain ⟨o', rfl, _, hcm⟩ := hm.at_ (by omega)
        have e1 := span_cell1 hcl hlt
        have e2 := span_cell2 hcl hlt
        have e3 := span_cell1 hcm hlt2
        have e4 := span_cell2 hcm hlt2
        have hkl : (k : Int) < (l.length : Int) := by omega
        have hkm : (k : Int) < (m.length : Int) := by omega
        have hG := spanGuard
        have hE := run_eq_span
        have hstep : l[k] = m[k] → l.take (k + 1) = m.take (k + 1) := fun h => by
          rw [List.take_succ_eq_append_getElem hlt, List.take_succ_eq_append_getElem hlt2, hsame, h]
        by_cases heq : l[k] = m[k]
        · have HS := Lib.hid (hstep heq)
          have hd : decide ((l[k].1, l[k].2) = (m[k].1, m[k].2)) = true := by rw [heq]; simp
          have E := Lib.hid hE
          generalize l[k].1 = a at *
          generalize l[k].2 = b at *
          generalize m[k].1 = a' at *
          generalize m[k].2 = b' at *
          have hE2 := fun w => E.out a b a' b' w
          rw [hd] at hE2
          clear hcl hcm hE heq hstep hsame hd
          go_wp2_with fail
          go_quiet (fail)
          go_wp2_with fail
          go_roundw
          case rel => exact ⟨k + 1, _, by omega, by go_num, rfl, HS.out⟩
          case measure => simp [intOf]; omega
        · have hfin : decide (l = m) = false := by
            simp
            rintro rfl
            exact heq rfl
          have hd : decide ((l[k].1, l[k].2) = (m[k].1, m[k].2)) = false := by
            simp
            intro h1 h2
            exact heq (Prod.ext h1 h2)
          have E := Lib.hid hE
          generalize l[k].1 = a at *
          generalize l[k].2 = b at *
          generalize m[k].1 = a' at *
          generalize m[k].2 = b' at *
          have hE2 := fun w => E.out a b a' b' w
          rw [hd] at hE2
          clear hcl hcm hE heq hstep hsame hd
          go_wp2_with fail
          go_quiet (fail)
          go_wp2_with fail
          go_ret
          exact ⟨by first | rfl | (rw [hfin]; rfl), q + nq, World.drewN_drewN _ _ _⟩
      · have hfin : decide (l = m) = true := by
          rw [List.take_of_length_le (by omega), List.take_of_length_le (by omega)] at hsame
          simpa using hsame
        clear hsame
        go_wp2_with fail
        go_ret
        exact ⟨by first | rfl | (rw [hfin]; rfl), q, rfl⟩
  · have hfin : decide (l = m) = false := by
      simp
      rintro rfl
      exact hlen rfl
    have hne : ((l.length : Int) != (m.length : Int)) = true := by simp; omega
    go_enter Try.func21, Try.ntmps21
    go_wp2_with fail
    go_ret
    exact ⟨by first | rfl | (rw [hfin]; rfl), 0, rfl⟩

theorem cnt_le (p : Nat → Bool) : ∀ N, cnt p N ≤ N
  | 0 => Nat.le_refl _
  | N + 1 => by rw [cnt]; have := cnt_le p N; split <;> omega
theorem cntS_append : ∀ (a b : List Sp), cntS (a ++ b) = cntS a + cntS b
  | [], b => by simp [cntS]
  | s :: a, b => by rw [List.cons_append, cntS, cntS, cntS_append a b]; omega
theorem cntS_take (l : List Sp) (k : Nat) (h : k < l.length) : cntS (l.take (k + 1)) = cntS (l.take k) + (l[k].2 - l[k].1 + 1) := by
  rw [List.take_succ_eq_append_getElem h, cntS_append]
  simp [cntS]
theorem cntS_take_le (l : List Sp) (k : Nat) : cntS (l.take k) ≤ cntS l := by
  have := cntS_append (l.take k) (l.drop k)
  rw [List.take_append_drop] at this
  omega
theorem cntS_le (l : List Sp) (hc : canon l) (hu : u32s l) : cntS l ≤ 4294967296 := by
  rw [cntS_eq 4294967296 hc fun s hs => (hu s hs).2]
  exact cnt_le _ _

set_option maxHeartbeats 400000 in
theorem qcount_any (A : Option Addr) (c n d : Nat) (l : List Sp) (w : World) (hn : l.length = n) (hl : ShowsG spanC w d (.slice A n c) l) (hu : u32s l) (hb : n ≤ 17592186044416) :
    Calls Try.prog 16 #[.slice A n c] w fun e w' => e = .returned (.int .u64 (if canon l then cntS l else 0 : Nat)) ∧ ∃ m, w' = w.drewN m := by
  subst hn
  have hr := Lib.hid (fun q => qright_any A c l.length d l (w.drewN q) rfl (hl.drewN q) hu hb)
  by_cases hc : canon l
  · rw [if_pos hc]
    rw [show decide (canon l) = true by simpa using hc] at hr
    have HLE := Lib.hid (cntS_le l hc hu)
    have HC := Lib.hid ((canon_iff l).1 hc)
    go_enter Try.func16, Try.ntmps16
    go_wp2_with fail
    go_loopw [3, 4] (fun sm i wr => ∃ k q : Nat, k ≤ l.length ∧ i = .int .i64 k ∧ wr = w.drewN q ∧ sm = .int .u64 (cntS (l.take k) : Nat)) (fun _ i _ => l.length - (intOf i).toNat)
    case atStart => exact ⟨0, 0, Nat.zero_le _, rfl, rfl, rfl⟩
    case round =>
      obtain ⟨k, q, hk, rfl, rfl, rfl⟩ := hrel
      by_cases hlt : k < l.length
      · obtain ⟨o, rfl, _, hcl⟩ := hl.at_ (by omega)
        have c1 := span_cell1 hcl hlt
        have c2 := span_cell2 hcl hlt
        obtain ⟨b1, b2⟩ := u32s_get hu hlt
        have hkl : (k : Int) < (l.length : Int) := by omega
        have hab := (HC.out k hlt).1
        have hst := cntS_take l k hlt
        have h1 := cntS_take_le l k
        have h2 := cntS_take_le l (k + 1)
        have hle := HLE.out
        generalize l[k].1 = a at *
        generalize l[k].2 = b at *
        generalize cntS (l.take k) = s at *
        have w1 : ((s : Int) + (b : Int)) % 18446744073709551616 = (s : Int) + (b : Int) := by omega
        have w2 : ((s : Int) + (b : Int) - (a : Int)) % 18446744073709551616 = (s : Int) + (b : Int) - (a : Int) := by omega
        have w3 : ((s : Int) + (b : Int) - (a : Int) + 1) % 18446744073709551616 = (s : Int) + (b : Int) - (a : Int) + 1 := by omega
        have hend : Value.int IntKind.u64 ((s : Int) + (b : Int) - (a : Int) + 1) = Value.int IntKind.u64 (cntS (l.take (k + 1)) : Nat) := by rw [hst]; congr 1; omega
        have HE := Lib.hid hend
        have wb : (b : Int) % 18446744073709551616 = (b : Int) := by omega
        have wa : (a : Int) % 18446744073709551616 = (a : Int) := by omega
        clear hst h1 h2 hle b1 b2 hcl hend hab
        go_wp2_with (go_at_call 12; refine (hr.out _).mono ?_; rintro e w' ⟨rfl, m, rfl⟩)
        go_quiet (fail)
        go_wp2_with fail
        go_roundw
        case rel => exact ⟨k + 1, _, by omega, by go_num, rfl, HE.out⟩
        case measure => simp [intOf]; omega
      · rw [List.take_of_length_le (by omega)]
        go_wp2_with fail
        go_ret
        exact ⟨rfl, q, rfl⟩
  · rw [if_neg hc]
    rw [show decide (canon l) = false by simpa using hc] at hr
    have hp : (0 : Int) < (l.length : Int) := by
      have : 0 < l.length := by
        cases l with
        | nil => exact absurd trivial hc
        | cons s l => simp
      omega
    go_enter Try.func16, Try.ntmps16
    go_wp2_with fail
    go_loopw [3, 4] (fun sm i wr => i = .int .i64 0 ∧ sm = .int .u64 0 ∧ wr = w) (fun _ i _ => 0)
    case atStart => exact ⟨rfl, rfl, rfl⟩
    case round =>
      obtain ⟨rfl, rfl, rfl⟩ := hrel
      go_wp2_with (go_at_call 12; refine (hr.out 0).mono ?_; rintro e w' ⟨rfl, m, rfl⟩)
      go_ret
      exact ⟨rfl, m, by first | rfl | exact World.drewN_drewN _ _ _⟩

end Go.Proofs.Ytpchjgeehejkeaa
