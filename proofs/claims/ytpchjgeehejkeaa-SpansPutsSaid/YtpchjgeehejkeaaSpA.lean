/-
  The contracts of the program's Right, find (with its closure and sort.Search), Has and Count of spans.
  Conditions: the numbers are of 32 bits; at most 2^44 spans; find is spoken of at canonical lists.
-/
import Derived.Test.YtpchjgeehejkeaaSpansP
import Derived.Deep.LoopGhost
import Derived.Shelf.RegionOpenPlain
namespace Go.Proofs.Ytpchjgeehejkeaa
open Go.RowKit
set_option linter.unusedVariables false
set_option linter.unusedSimpArgs false

set_option maxHeartbeats 800000 in
theorem right_any (A : Option Addr) (c n d : Nat) (l : List Sp) (w : World) (hn : l.length = n) (hl : ShowsG spanC w d (.slice A n c) l) (hu : u32s l) (hb : n ≤ 17592186044416) :
    Calls Try.prog 11 #[.slice A n c] w fun e w' => e = .returned (.bool (decide (canon l))) ∧ Below w.heap.size w w' := by
  subst hn
  have HC := canon_iff l
  go_enter Try.func11, Try.ntmps11
  go_wp2_with fail
  go_loopw [7] (fun i wr => ∃ k : Nat, k ≤ l.length ∧ i = .int .i64 k ∧ Below w.heap.size w wr ∧ ∀ j (h : j < l.length), j < k → l[j].1 ≤ l[j].2 ∧ (0 < j → ∀ (h' : j - 1 < l.length), l[j - 1].2 + 2 ≤ l[j].1)) (fun i _ => l.length - (intOf i).toNat)
  case atStart => exact ⟨0, Nat.zero_le _, rfl, Below.refl _ _, fun j _ h => absurd h (by omega)⟩
  case round =>
    rename World => x
    obtain ⟨k, hk, rfl, hbw, hok⟩ := hrel
    by_cases hlt : k < l.length
    · obtain ⟨o, rfl, _, hcl⟩ := (hl.below' hbw (Nat.le_refl _)).at_ (by omega)
      have c1 := span_cell1 hcl hlt
      have c2 := span_cell2 hcl hlt
      obtain ⟨b1, b2⟩ := u32s_get hu hlt
      have hkl : (k : Int) < (l.length : Int) := by omega
      have hlt' := (hl.below' hbw (Nat.le_refl _)).lt (by omega)
      have hbad : (l[k].1 ≤ l[k].2 ∧ (0 < k → ∀ (h' : k - 1 < l.length), l[k - 1].2 + 2 ≤ l[k].1)) ∨ decide (canon l) = false := by
        by_cases hc : canon l
        · exact .inl (HC.1 hc k hlt)
        · exact .inr (by simp [hc])
      by_cases h1 : l[k].2 < l[k].1
      · have hd : decide (((l[k].2 : Nat) : Int) < ((l[k].1 : Nat) : Int)) = true := by simp; omega
        have hfin : decide (canon l) = false := by
          rcases hbad with h | h
          · omega
          · exact h
        generalize l[k].1 = a at *
        generalize l[k].2 = b at *
        clear hok hbad hcl HC b1 b2
        go_wp2_with fail
        go_ret
        exact ⟨by first | rfl | (rw [hfin]; rfl), hbw.alloc hbw.size _⟩
      · have hd : decide (((l[k].2 : Nat) : Int) < ((l[k].1 : Nat) : Int)) = false := by simp; omega
        by_cases hk0 : k = 0
        · subst hk0
          have hstep : ∀ j (h : j < l.length), j < 0 + 1 → l[j].1 ≤ l[j].2 ∧ (0 < j → ∀ (h' : j - 1 < l.length), l[j - 1].2 + 2 ≤ l[j].1) := fun j hj hj1 => by
            obtain rfl : j = 0 := by omega
            exact ⟨by omega, fun h => absurd h (by omega)⟩
          have HST := Lib.hid hstep
          generalize l[0].1 = a at *
          generalize l[0].2 = b at *
          clear hok hbad hcl HC b1 b2 hstep
          rw [Nat.zero_mul, Nat.add_zero] at c1 c2
          go_wp2_with fail
          go_quiet (fail)
          go_wp2_with fail
          go_roundw
          case rel => exact ⟨1, by omega, rfl, below_drewN (hbw.alloc hbw.size _) _, HST.out⟩
          case measure => simp [intOf]; omega
        · obtain ⟨j, rfl⟩ : ∃ j, k = j + 1 := ⟨k - 1, by omega⟩
          have hj : j < l.length := by omega
          have c3 := span_cell2 hcl hj
          obtain ⟨b3, b4⟩ := u32s_get hu hj
          have hjl : (j : Int) < (l.length : Int) := by omega
          have hjl1 : (j : Int) + 1 < (l.length : Int) := by omega
          by_cases h2 : l[j + 1].1 < l[j].2 + 2
          · have hd2 : decide (((l[j + 1].1 : Nat) : Int) < ((l[j].2 : Nat) : Int) + 2) = true := by simp; omega
            have hfin : decide (canon l) = false := by
              rcases hbad with h | h
              · have := h.2 (by omega) (by omega); simp at this; omega
              · exact h
            generalize l[j + 1].1 = a at *
            generalize l[j + 1].2 = b at *
            generalize l[j].2 = e at *
            clear hok hbad hcl HC
            go_wp2_with fail
            go_quiet (fail)
            go_wp2_with fail
            go_ret
            exact ⟨by first | rfl | (rw [hfin]; rfl), below_drewN (hbw.alloc hbw.size _) _⟩
          · have hd2 : decide (((l[j + 1].1 : Nat) : Int) < ((l[j].2 : Nat) : Int) + 2) = false := by simp; omega
            have hstep : ∀ i (h : i < l.length), i < j + 1 + 1 → l[i].1 ≤ l[i].2 ∧ (0 < i → ∀ (h' : i - 1 < l.length), l[i - 1].2 + 2 ≤ l[i].1) := fun i hi hij => by
              by_cases hij2 : i < j + 1
              · exact hok i hi hij2
              · obtain rfl : i = j + 1 := by omega
                exact ⟨by omega, fun _ _ => by simp; omega⟩
            have HST := Lib.hid hstep
            generalize l[j + 1].1 = a at *
            generalize l[j + 1].2 = b at *
            generalize l[j].2 = e at *
            clear hok hbad hcl HC hstep
            go_wp2_with fail
            go_quiet (fail)
            go_wp2_with fail
            go_roundw
            case rel => exact ⟨j + 1 + 1, by omega, by go_num, below_drewN (hbw.alloc hbw.size _) _, HST.out⟩
            case measure => simp [intOf]; omega
    · have hfin : decide (canon l) = true := by simp [HC.2 fun k h => hok k h (by omega)]
      clear hok HC
      go_wp2_with fail
      go_ret
      exact ⟨by first | rfl | (rw [hfin]; rfl), hbw⟩

set_option maxHeartbeats 800000 in
theorem clo_any (ba bx : Nat) (A : Option Addr) (c n d x i : Nat) (l : List Sp) (W : World) (hn : l.length = n) (hl : ShowsG spanC W d (.slice A n c) l) (ca : W.cell? ⟨ba, 0, none⟩ = some (.slice A n c)) (cx : W.cell? ⟨bx, 0, none⟩ = some (.int .u32 (x : Nat))) (hi : i < l.length) :
    Calls Try.prog 45 #[.int .i64 i, .pointer (some ⟨ba, 0, none⟩), .pointer (some ⟨bx, 0, none⟩)] W fun e w' => e = .returned (.bool (decide (x ≤ l[i].2))) ∧ ∃ q, w' = W.drewN q := by
  subst hn
  obtain ⟨o, rfl, _, hcl⟩ := hl.at_ (by omega)
  have c2 := span_cell2 hcl hi
  have hil : (i : Int) < (l.length : Int) := by omega
  generalize l[i].2 = b at *
  clear hcl hl
  go_enter Try.func45, Try.ntmps45
  go_wp2_with fail
  go_quiet (fail)
  go_wp2_with fail
  go_ret
  exact ⟨by first | rfl | simp, nq, rfl⟩

set_option maxHeartbeats 800000 in
theorem search_any (ba bx : Nat) (A : Option Addr) (c n d x : Nat) (l : List Sp) (W : World) (hn : l.length = n) (hl : ShowsG spanC W d (.slice A n c) l) (ca : W.cell? ⟨ba, 0, none⟩ = some (.slice A n c)) (cx : W.cell? ⟨bx, 0, none⟩ = some (.int .u32 (x : Nat))) (hc : canon l) (hb : n ≤ 17592186044416) :
    Calls Try.prog 44 #[.int .i64 n, .func (.func 45) #[] #[.pointer (some ⟨ba, 0, none⟩), .pointer (some ⟨bx, 0, none⟩)]] W fun e w' => ∃ k : Nat, e = .returned (.int .i64 k) ∧ isAt l x k ∧ ∃ q, w' = W.drewN q := by
  subst hn
  have HF := Lib.hid (fun q i hi => clo_any ba bx A c l.length d x i l (W.drewN q) rfl (hl.drewN q) (by exact ca) (by exact cx) hi)
  have M := Lib.hid (fun a b => canon_mono2 hc (a := a) (b := b))
  clear ca cx hc hl
  go_enter Try.func44, Try.ntmps44
  go_wp2_with fail
  go_loopw [5, 6] (fun s5 s6 wr => ∃ lo hi q : Nat, s5 = .int .i64 lo ∧ s6 = .int .i64 hi ∧ lo ≤ hi ∧ hi ≤ l.length ∧ wr = W.drewN q ∧ Hid ((∀ t (h : t < l.length), t < lo → l[t].2 < x) ∧ (∀ t (h : t < l.length), hi ≤ t → x ≤ l[t].2))) (fun s5 s6 _ => (intOf s6).toNat - (intOf s5).toNat)
  case atStart => exact ⟨0, l.length, 0, rfl, rfl, Nat.zero_le _, Nat.le_refl _, rfl, Lib.hid ⟨fun t _ h => absurd h (by omega), fun t h1 h2 => absurd h1 (by omega)⟩⟩
  case round =>
    obtain ⟨lo, hi, q, rfl, rfl, hlh, hin, rfl, I⟩ := hrel
    by_cases hlt : lo < hi
    · have hm : (lo + hi) / 2 < l.length := by omega
      have hcl := HF.out q ((lo + hi) / 2) hm
      rw [show (((lo + hi) / 2 : Nat) : Int) = ((lo : Int) + (hi : Int)) / 2 by omega] at hcl
      by_cases hx : x ≤ l[(lo + hi) / 2].2
      · rw [show decide (x ≤ l[(lo + hi) / 2].2) = true by simpa using hx] at hcl
        have I2 := Lib.hid (show (∀ t (h : t < l.length), t < lo → l[t].2 < x) ∧ (∀ t (h : t < l.length), (lo + hi) / 2 ≤ t → x ≤ l[t].2) from ⟨I.out.1, fun t h1 h2 => by have := M.out _ _ h2 h1; omega⟩)
        clear hx
        go_wp2_with (go_at_call 45; refine hcl.mono ?_; rintro e w' ⟨rfl, nq, rfl⟩)
        go_roundw
        case rel => exact ⟨lo, (lo + hi) / 2, q + nq, rfl, by go_num, by omega, by omega, rfl, I2⟩
        case measure => simp [intOf]; omega
      · rw [show decide (x ≤ l[(lo + hi) / 2].2) = false by simpa using hx] at hcl
        have I2 := Lib.hid (show (∀ t (h : t < l.length), t < (lo + hi) / 2 + 1 → l[t].2 < x) ∧ (∀ t (h : t < l.length), hi ≤ t → x ≤ l[t].2) from ⟨fun t h1 h2 => by have := M.out t ((lo + hi) / 2) (by omega) hm; omega, I.out.2⟩)
        clear hx
        go_wp2_with (go_at_call 45; refine hcl.mono ?_; rintro e w' ⟨rfl, nq, rfl⟩)
        go_roundw
        case rel => exact ⟨(lo + hi) / 2 + 1, hi, q + nq, by go_num, rfl, by omega, by omega, rfl, I2⟩
        case measure => simp [intOf]; omega
    · obtain rfl : hi = lo := by omega
      go_wp2_with fail
      go_ret
      exact ⟨_, rfl, ⟨hin, I.out.1, I.out.2⟩, q, rfl⟩

/-- The place of a number, and whether it is there. -/
theorem find_any (A : Option Addr) (c n d x : Nat) (l : List Sp) (w : World) (hn : l.length = n) (hl : ShowsG spanC w d (.slice A n c) l) (hu : u32s l) (hb : n ≤ 17592186044416) (hc : canon l) (hx : x < 4294967296) :
    Calls Try.prog 29 #[.slice A n c, .int .u32 x] w fun e w' => ∃ k : Nat, e = .returned (.tuple #[.int .i64 k, .bool (decide (memS l x))]) ∧ isAt l x k ∧ Below w.heap.size w w' := by
  subst hn
  obtain ⟨W, hW⟩ : ∃ W, W = (w.alloc (.cells #[.slice A l.length c] 22)).alloc (.cells #[.int .u32 x] 23) := ⟨_, rfl⟩
  have hB : Below w.heap.size w W := by rw [hW]; exact ((Below.refl _ _).alloc (Nat.le_refl _) _).alloc (by simp) _
  have hsW : W.heap.size = w.heap.size + 1 + 1 := by rw [hW]; simp
  have ca : W.cell? ⟨w.heap.size, 0, none⟩ = some (.slice A l.length c) := by
    rw [hW]
    rw [World.cell?_alloc_lt _ _ _ (by simp)]
    exact cell_of_row _ _ 0 _ 22 (0, 0) (heap_alloc_new w _)
  have cx : W.cell? ⟨w.heap.size + 1, 0, none⟩ = some (.int .u32 (x : Nat)) := by
    rw [hW]
    have := cell_of_row _ _ 0 _ 23 (0, 0) (heap_alloc_new (w.alloc (.cells #[.slice A l.length c] 22)) (.cells #[.int .u32 (x : Nat)] 23))
    rwa [World.size_alloc] at this
  have hlW := hl.below' hB (Nat.le_refl _)
  have hS := Lib.hid (search_any w.heap.size (w.heap.size + 1) A c l.length d x l W rfl hlW ca cx hc hb)
  have hmem := Lib.hid (fun k (hk : isAt l x k) => isAt_mem hk hc)
  go_enter Try.func29, Try.ntmps29
  go_wp2_with (go_at_call 44; rw [← hW]; clear hW hsW; refine hS.out.mono ?_; rintro e w' ⟨k, rfl, hk, q, rfl⟩)
  have hkle := hk.1
  have HK := Lib.hid hk
  have hkm := hmem.out k hk
  clear hk hmem
  by_cases hkl : k < l.length
  · obtain ⟨o, rfl, _, hcl⟩ := hlW.at_ (by omega)
    have c1 := span_cell1 hcl hkl
    have b1 := (u32s_get hu hkl).1
    have hkI : decide (k < l.length) = true := by simpa using hkl
    have hkI2 : (k : Int) < (l.length : Int) := by omega
    have hfin : decide (memS l x) = decide (l[k].1 ≤ x) := decide_eq_decide.2 (hkm.trans ⟨fun ⟨_, h⟩ => h, fun h => ⟨hkl, h⟩⟩)
    have HM := Lib.hid hfin
    generalize l[k].1 = a at *
    clear hkm hfin hcl hl hlW
    go_wp2_with fail
    go_quiet (fail)
    go_wp2_with fail
    go_ret2
    refine ⟨k, ?_, HK.out, below_drewN (below_drewN hB _) _⟩
    rw [HM.out]
    rfl
  · have hkI : decide (k < l.length) = false := by simpa using hkl
    have hfin : decide (memS l x) = false := decide_eq_false fun h => by obtain ⟨h, _⟩ := hkm.1 h; exact hkl h
    have HM := Lib.hid hfin
    clear hkm hfin hl hlW
    go_wp2_with fail
    go_quiet (fail)
    go_wp2_with fail
    go_ret2
    refine ⟨k, ?_, HK.out, below_drewN (below_drewN hB _) _⟩
    rw [HM.out]
    rfl

theorem has_any (A : Option Addr) (c n d x : Nat) (l : List Sp) (w : World) (hn : l.length = n) (hl : ShowsG spanC w d (.slice A n c) l) (hu : u32s l) (hb : n ≤ 17592186044416) (hx : x < 4294967296) :
    Calls Try.prog 13 #[.slice A n c, .int .u32 x] w fun e w' => e = .returned (.bool (decide (canon l) && decide (memS l x))) ∧ Below w.heap.size w w' := by
  have hr := Lib.hid (right_any A c n d l w hn hl hu hb)
  by_cases hc : canon l
  · rw [show decide (canon l) = true by simpa using hc] at hr ⊢
    rw [Bool.true_and]
    have hf := Lib.hid (fun w' (hb' : Below w.heap.size w w') => find_any A c n d x l w' hn (hl.below' hb' (Nat.le_refl _)) hu hb hc hx)
    generalize decide (memS l x) = mm at *
    clear hc hl
    go_enter Try.func13, Try.ntmps13
    go_wp2_with (go_at_call 11; refine hr.out.mono ?_; rintro e w1 ⟨rfl, hb1⟩)
    go_wp2_with (go_at_call 29; refine (hf.out _ hb1).mono ?_; rintro e w2 ⟨k, rfl, hk, hb2⟩)
    go_ret
    exact ⟨rfl, hb1.trans (hb2.mono hb1.size)⟩
  · rw [show decide (canon l) = false by simpa using hc] at hr ⊢
    rw [Bool.false_and]
    go_enter Try.func13, Try.ntmps13
    go_wp2_with (go_at_call 11; refine hr.out.mono ?_; rintro e w1 ⟨rfl, hb1⟩)
    go_ret
    exact ⟨rfl, hb1⟩

set_option maxHeartbeats 400000 in
theorem count_any (A : Option Addr) (c n d : Nat) (l : List Sp) (w : World) (hn : l.length = n) (hl : ShowsG spanC w d (.slice A n c) l) (hu : u32s l) (hb : n ≤ 17592186044416) :
    Calls Try.prog 15 #[.slice A n c] w fun e w' => e = .returned (.int .u64 (if canon l then cntS l else 0 : Nat)) ∧ Below w.heap.size w w' := by
  subst hn
  have hr := Lib.hid (right_any A c l.length d l w rfl hl hu hb)
  by_cases hc : canon l
  · rw [if_pos hc]
    rw [show decide (canon l) = true by simpa using hc] at hr
    have HLE := Lib.hid (cntS_le l hc hu)
    have HC := Lib.hid ((canon_iff l).1 hc)
    have HU := Lib.hid hu
    clear hc
    go_enter Try.func15, Try.ntmps15
    go_wp2_with (go_at_call 11; refine hr.out.mono ?_; rintro e w1 ⟨rfl, hb1⟩)
    go_loopw [3, 11] (fun sm i wr => ∃ k : Nat, k ≤ l.length ∧ i = .int .i64 k ∧ Below w.heap.size w wr ∧ sm = .int .u64 (cntS (l.take k) : Nat)) (fun _ i _ => l.length - (intOf i).toNat)
    case atStart => exact ⟨0, Nat.zero_le _, rfl, hb1, rfl⟩
    case round =>
      rename World => x
      obtain ⟨k, hk, rfl, hbw, rfl⟩ := hrel
      by_cases hlt : k < l.length
      · obtain ⟨o, rfl, _, hcl⟩ := (hl.below' hbw (Nat.le_refl _)).at_ (by omega)
        have c1 := span_cell1 hcl hlt
        have c2 := span_cell2 hcl hlt
        obtain ⟨b1, b2⟩ := u32s_get HU.out hlt
        have hkl : (k : Int) < (l.length : Int) := by omega
        have hlt' := (hl.below' hbw (Nat.le_refl _)).lt (by omega)
        have hab := (HC.out k hlt).1
        have hst := cntS_take l k hlt
        have h1 := cntS_take_le l k
        have h2 := cntS_take_le l (k + 1)
        have hle := HLE.out
        generalize l[k].1 = a at *
        generalize l[k].2 = b at *
        generalize cntS (l.take k) = s at *
        have w0 : ((b : Int) - (a : Int)) % 4294967296 = (b : Int) - (a : Int) := by omega
        have w1 : ((b : Int) - (a : Int)) % 18446744073709551616 = (b : Int) - (a : Int) := by omega
        have w2 : ((b : Int) - (a : Int) + 1) % 18446744073709551616 = (b : Int) - (a : Int) + 1 := by omega
        have w3 : ((s : Int) + ((b : Int) - (a : Int) + 1)) % 18446744073709551616 = (s : Int) + ((b : Int) - (a : Int) + 1) := by omega
        have hend : Value.int IntKind.u64 ((s : Int) + ((b : Int) - (a : Int) + 1)) = Value.int IntKind.u64 (cntS (l.take (k + 1)) : Nat) := by rw [hst]; congr 1; omega
        have HE := Lib.hid hend
        clear hst h1 h2 hle b1 b2 hcl hend hab
        go_wp2_with fail
        go_roundw
        case rel => exact ⟨k + 1, by omega, by go_num, hbw.alloc hbw.size _, HE.out⟩
        case measure => simp [intOf]; omega
      · rw [List.take_of_length_le (by omega)]
        go_wp2_with fail
        go_ret
        exact ⟨rfl, hbw⟩
  · rw [if_neg hc]
    rw [show decide (canon l) = false by simpa using hc] at hr
    go_enter Try.func15, Try.ntmps15
    go_wp2_with (go_at_call 11; refine hr.out.mono ?_; rintro e w1 ⟨rfl, hb1⟩)
    go_ret
    exact ⟨rfl, hb1⟩

end Go.Proofs.Ytpchjgeehejkeaa
