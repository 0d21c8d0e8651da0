/-
  The contract of the document's edges: the numbers at which a span begins, or behind which one ends, rising, each once.
  Conditions: the numbers are of 32 bits; at most 2^40 spans.
-/
import Derived.Test.YtpchjgeehejkeaaRef03A
import Derived.Deep.CutBlock
namespace Go.Proofs.Ytpchjgeehejkeaa
open Go.RowKit
set_option linter.unusedVariables false
set_option linter.unusedSimpArgs false

theorem infoU64 : (Try.prog.info? 27).map (fun i => (i.zero, i.size, i.bytes)) = some (some (.int .u64 0), (natC .u64).sz, 8) := by kernel_rfl
theorem num_cell {w : World} {b : Nat} {l : List Nat} {k : IntKind} (h : ∀ j (h : j < l.length) q, q < (natC k).sz → w.cell? ⟨b, j * (natC k).sz + q, none⟩ = ((natC k).enc l[j])[q]?) {j : Nat} (hj : j < l.length) : w.cell? ⟨b, j, none⟩ = some (.int k (l[j] : Nat)) := by
  have := h j hj 0 (by simp [natC])
  simpa [natC] using this
theorem num_cell' {w : World} {d o : Nat} {l : List Nat} {k : IntKind} (h : ∀ j (h : j < l.length) q, q < (natC k).sz → w.cell? ⟨d, o + (j * (natC k).sz + q), none⟩ = ((natC k).enc l[j])[q]?) {j : Nat} (hj : j < l.length) : w.cell? ⟨d, o + j, none⟩ = some (.int k (l[j] : Nat)) := by
  have := h j hj 0 (by simp [natC])
  simpa [natC] using this

theorem ShowsG.empty {α : Type} (C : Code α) (w : World) (d : Nat) (A : Option Addr) (c : Nat) (hc : c ≤ maxLen) : ShowsG C w d (.slice A 0 c) [] := ⟨A, c, rfl, by simp, hc, fun h => absurd h (by simp)⟩

/-- What stands in the row when i spans are done, and k of the next one's two numbers. -/
def edgeAt (l : List Sp) (i k : Nat) (e : List Nat) : Prop :=
  rising e ∧ e.length ≤ 2 * i + k ∧ ∀ y, y ∈ e ↔ (∃ s ∈ l.take i, y = s.1 ∨ y = s.2 + 1) ∨ (1 ≤ k ∧ ∃ h : i < l.length, y = l[i].1) ∨ (2 ≤ k ∧ ∃ h : i < l.length, y = l[i].2 + 1)
theorem edgeAt_zero (l : List Sp) : edgeAt l 0 0 [] := ⟨fun i j hi => by simp at hi, by simp, fun y => by simp⟩
theorem edgeAt_next {l : List Sp} {i : Nat} {e : List Nat} (hi : i < l.length) (h : edgeAt l i 2 e) : edgeAt l (i + 1) 0 e := by
  refine ⟨h.1, by have := h.2.1; omega, fun y => ?_⟩
  rw [h.2.2 y, List.take_succ_eq_append_getElem hi]
  constructor
  · rintro (⟨s, hs, h⟩ | ⟨_, _, h⟩ | ⟨_, _, h⟩)
    · exact .inl ⟨s, List.mem_append_left _ hs, h⟩
    · exact .inl ⟨l[i], List.mem_append_right _ (List.mem_singleton.2 rfl), .inl h⟩
    · exact .inl ⟨l[i], List.mem_append_right _ (List.mem_singleton.2 rfl), .inr h⟩
  · rintro (⟨s, hs, h⟩ | ⟨h, _⟩ | ⟨h, _⟩)
    · rcases List.mem_append.1 hs with hs | hs
      · exact .inl ⟨s, hs, h⟩
      · obtain rfl := List.mem_singleton.1 hs
        rcases h with h | h
        · exact .inr (.inl ⟨by omega, hi, h⟩)
        · exact .inr (.inr ⟨by omega, hi, h⟩)
    · omega
    · omega
/-- The number that is looked at with k. -/
def edgeNum (s : Sp) (k : Nat) : Nat := if k = 0 then s.1 else s.2 + 1
theorem edgeAt_step {l : List Sp} {i k : Nat} {e e' : List Nat} (hi : i < l.length) (hk : k < 2) (h : edgeAt l i k e) (hr : rising e') (hlen : e'.length ≤ e.length + 1) (hm : ∀ y, y ∈ e' ↔ y ∈ e ∨ y = edgeNum l[i] k) : edgeAt l i (k + 1) e' := by
  refine ⟨hr, by have := h.2.1; omega, fun y => ?_⟩
  rw [hm y, h.2.2 y]
  rcases (show k = 0 ∨ k = 1 by omega) with rfl | rfl
  · simp only [edgeNum, if_true]
    constructor
    · rintro ((h | ⟨h, _⟩ | ⟨h, _⟩) | h)
      · exact .inl h
      · omega
      · omega
      · exact .inr (.inl ⟨by omega, hi, h⟩)
    · rintro (h | ⟨_, _, h⟩ | ⟨h, _⟩)
      · exact .inl (.inl h)
      · exact .inr h
      · omega
  · simp only [edgeNum, Nat.one_ne_zero, if_false]
    constructor
    · rintro ((h | ⟨_, _, h⟩ | ⟨h, _⟩) | h)
      · exact .inl h
      · exact .inr (.inl ⟨by omega, hi, h⟩)
      · omega
      · exact .inr (.inr ⟨by omega, hi, h⟩)
    · rintro (h | ⟨_, _, h⟩ | ⟨_, _, h⟩)
      · exact .inl (.inl h)
      · exact .inl (.inr (.inl ⟨by omega, hi, h⟩))
      · exact .inr h
theorem edgeAt_end {l : List Sp} {e : List Nat} (h : edgeAt l l.length 0 e) : edgesOf l e := by
  refine ⟨h.1, fun y => ?_⟩
  rw [h.2.2 y, List.take_length]
  constructor
  · rintro (h | ⟨h, _⟩ | ⟨h, _⟩)
    · exact h
    · omega
    · omega
  · exact .inl

set_option maxRecDepth 100000 in
set_option maxHeartbeats 1000000 in
theorem qedges_any (A : Option Addr) (c n d : Nat) (l : List Sp) (w : World) (hn : l.length = n) (hl : ShowsG spanC w d (.slice A n c) l) (hu : u32s l) (hb : n ≤ 1099511627776) :
    Calls Try.prog 49 #[.slice A n c] w fun e w' => ∃ v es, e = .returned v ∧ OwnG (natC .u64) 27 w' w.heap.size v es ∧ edgesOf l es ∧ es.length ≤ 2 * n ∧ Below w.heap.size w w' := by
  subst hn
  go_enter Try.func49, Try.ntmps49
  go_wp2_with fail
  go_loopw [3, 4, 5, 6, 7, 8] (fun out i _ _ _ _ wr => ∃ (k : Nat) (es : List Nat), k ≤ l.length ∧ i = .int .i64 k ∧ edgeAt l k 0 es ∧ OwnG (natC .u64) 27 wr w.heap.size out es ∧ Below w.heap.size w wr) (fun _ i _ _ _ _ _ => l.length - (intOf i).toNat)
  case atStart => exact ⟨0, [], Nat.zero_le _, rfl, edgeAt_zero l, OwnG.nil_ _ _ _ _, Below.refl _ _⟩
  case round =>
    obtain ⟨i, es, hi, rfl, hat, ho, hbw⟩ := hrel
    by_cases hlt : i < l.length
    · obtain ⟨o, rfl, _, hcl⟩ := (hl.below' hbw (Nat.le_refl _)).at_ (by omega)
      have hdl := hl.lt (by omega)
      have c1 := span_cell1 hcl hlt
      have c2 := span_cell2 hcl hlt
      obtain ⟨b1, b2⟩ := u32s_get hu hlt
      have hkl : (i : Int) < (l.length : Int) := by omega
      clear hcl c1 c2
      rename World => wa
      go_wp2_with fail
      go_loopw [3, 5, 6, 7, 8] (fun out k _ _ _ wr => ∃ (kk : Nat) (es : List Nat), kk ≤ 2 ∧ k = .int .i64 kk ∧ edgeAt l i kk es ∧ OwnG (natC .u64) 27 wr w.heap.size out es ∧ Below w.heap.size w wr) (fun _ k _ _ _ _ => 2 - (intOf k).toNat)
      case atStart => exact ⟨0, es, by omega, rfl, hat, ho, hbw⟩
      case round =>
        clear ho hat hbw
        obtain ⟨kk, es, hkk, rfl, hat, ho, hbw⟩ := hrel
        rename World => wb
        by_cases hk2 : kk < 2
        · obtain ⟨o', e, _, hcl⟩ := (hl.below' hbw (Nat.le_refl _)).at_ (by omega)
          cases e
          have c1 := span_cell1 hcl hlt
          have c2 := span_cell2 hcl hlt
          clear hcl
          obtain ⟨x, hx⟩ : ∃ x, x = edgeNum l[i] kk := ⟨_, rfl⟩
          have hstep := fun e' => edgeAt_step (e' := e') hlt hk2 hat
          rw [← hx] at hstep
          have hxl : x ≤ 4294967296 := by rw [hx]; unfold edgeNum; split <;> omega
          have hrise := hat.1
          have hlen := hat.2.1
          have HST := Lib.hid hstep
          have HR := Lib.hid hrise
          have HXL := Lib.hid hxl
          clear hat hstep hrise hxl
          obtain ⟨Ae, ce, rfl, hce, hcm⟩ := ho.form
          have hk01 : kk = 0 ∨ kk = 1 := by omega
          have hkk2 : (kk : Int) < 2 := by omega
          rcases hk01 with hk0 | hk0
          case' inl =>
            rw [show l[i].1 = x by rw [hx, hk0]; rfl] at c1 b1
            have hb1 : ((kk : Int) == 1) = false := by simp; omega
            generalize l[i].2 = bb at *
            clear hx hk0
            go_upto_region 11 with fail
          case' inr =>
            have hxv : ((l[i].2 : Nat) : Int) + 1 = (x : Int) := by rw [hx, hk0]; simp [edgeNum]
            have hb1 : ((kk : Int) == 1) = true := by simp; omega
            generalize l[i].1 = aa at *
            generalize l[i].2 = bb at *
            clear hx hk0
            go_upto_region 11 with fail
          all_goals
            clear hb1 c1 c2 b1 b2
            go_wp2_with fail
            go_loop [7] (fun at_ => ∃ j : Nat, j ≤ es.length ∧ at_ = .int .i64 j ∧ ∀ q (h : q < es.length), q < j → es[q] < x) (fun at_ => es.length - (intOf at_).toNat)
            case atStart => exact ⟨0, by omega, rfl, fun q _ h => absurd h (by omega)⟩
            case round =>
              obtain ⟨j, hj, rfl, hlo⟩ := hrel
              by_cases hje : j < es.length
              · obtain ⟨b, rfl, hbb, hbl, _, hcl⟩ := ho.at_ (by omega)
                have ce1 := num_cell hcl hje
                have hje' : (j : Int) < (es.length : Int) := by omega
                clear hcl
                rcases Nat.lt_trichotomy es[j] x with hlt2 | heq | hgt
                · have hd : decide (((es[j] : Nat) : Int) < (x : Int)) = true := by simp; omega
                  have HLO : Hid (∀ q (h : q < es.length), q < j + 1 → es[q] < x) := by
                    show ∀ q (h : q < es.length), q < j + 1 → es[q] < x
                    intro q hq hqj
                    by_cases hqj2 : q < j
                    · exact hlo q hq hqj2
                    · obtain rfl : q = j := by omega
                      exact hlt2
                  generalize es[j] = z at *
                  clear hlo
                  go_wp2_with fail
                  go_round
                  case rel => exact ⟨j + 1, by omega, by go_num, HLO.out⟩
                  case measure => simp [intOf]; omega
                · have hd : decide (((es[j] : Nat) : Int) < (x : Int)) = false := by simp; omega
                  have hd2 : (((es[j] : Nat) : Int) == (x : Int)) = true := by simp; omega
                  have HE : Hid (edgeAt l i (kk + 1) es) := HST.out es HR.out (by omega) (fun y => ⟨.inl, by
                    rintro (h | h)
                    · exact h
                    · rw [h, ← heq]; exact List.getElem_mem hje⟩)
                  generalize es[j] = z at *
                  clear hlo
                  go_wp2_with fail
                  go_roundw
                  case rel => exact ⟨kk + 1, es, by omega, by go_num, HE.out, ho, hbw⟩
                  case measure => simp [intOf]; omega
                · have hd : decide (((es[j] : Nat) : Int) < (x : Int)) = false := by simp; omega
                  have hd2 : (((es[j] : Nat) : Int) == (x : Int)) = false := by simp; omega
                  have HE : Hid (edgeAt l i (kk + 1) (es.take j ++ ([x] ++ es.drop j))) := HST.out _ (rising_insert es j x HR.out hj (fun q h h1 => hlo q h h1) (fun h => hgt)) (by simp; omega) (fun y => mem_insert es j x y)
                  generalize es[j] = z at *
                  clear hlo
                  obtain ⟨g, _, hso⟩ := ho.shows
                  have hjc : ¬ ce = j := by omega
                  have hjc2 : (j : Int) ≤ (ce : Int) := by omega
                  have hje2 : (j : Int) ≤ (es.length : Int) := by omega
                  have s1 := hso.head (k := j) hj
                  have hbl8 : es.length ≤ 2199023255554 := by omega
                  go_wp2_with (first
                    | (at_builtin
                       refine wpList_appendG (natC .u64) _ rfl (.tmp 60) (.tmp 63) 78 rfl wb.heap.size 27 (.int .u64 0) 8 Try.underlying78 infoU64 rfl (.slice none 0 0) [] rfl (OwnG.nil_ _ _ _ _) g _ (es.take j) rfl s1 (by simp; omega) (by simp; omega) (Nat.le_refl _) ?_
                       intro v4 w4 ho4 hg4
                       rw [List.nil_append] at ho4
                       have hb4 : Below wb.heap.size wb w4 := (Below.refl _ _).grown hg4 (Nat.le_refl _) (by simp [Value.ownBlock]))
                    | (at_builtin
                       refine wpList_appendG (natC .u64) _ rfl (.tmp 65) (.tmp 67) 78 rfl wb.heap.size 27 (.int .u64 0) 8 Try.underlying78 infoU64 rfl v4 (es.take j) rfl (ho4.alloc_ _) w4.heap.size (.slice (some ⟨w4.heap.size, 0, none⟩) 1 1) [x] rfl (ShowsG.lit (C := natC .u64) [x] (by simp [Code.all, natC]) (by simp [maxLen])) (by simp; omega) (by simp; omega) (by have := hb4.size; simp; omega) ?_
                       intro v5 w5 ho5 hg5
                       have hb5 : Below wb.heap.size wb w5 := (hb4.alloc hb4.size _).grown hg5 (by have := hb4.size; simp; omega) (fun q hq => (ho4.block q hq).1))
                    | (at_builtin
                       refine wpList_appendG (natC .u64) _ rfl (.tmp 69) (.tmp 72) 78 rfl wb.heap.size 27 (.int .u64 0) 8 Try.underlying78 infoU64 rfl v5 (es.take j ++ [x]) rfl ho5 g _ (es.drop j) rfl ((hso.below' hb5 (Nat.le_refl _)).tail' hj _ (fun _ => by simp [Addr.add, natC]) (by omega) (by omega)) (by simp; omega) (by simp; omega) hb5.size ?_
                       intro v6 w6 ho6 hg6))
                  rw [List.append_assoc] at ho6
                  have hb6 : Below wb.heap.size wb w6 := hb5.grown hg6 hb5.size (fun q hq => (ho5.block q hq).1)
                  go_roundw
                  case rel => exact ⟨kk + 1, _, by omega, by go_num, HE.out, ho6.mono hbw.size, hbw.trans (hb6.mono hbw.size)⟩
                  case measure => simp [intOf]; omega
              · obtain rfl : j = es.length := by omega
                have HE : Hid (edgeAt l i (kk + 1) (es ++ [x])) := by
                  have h1 := rising_insert es es.length x HR.out (Nat.le_refl _) (fun q h h1 => hlo q h h1) (fun h => absurd h (by omega))
                  have h2 := mem_insert es es.length x
                  rw [List.take_length, List.drop_length, List.append_nil] at h1
                  simp only [List.take_length, List.drop_length, List.append_nil] at h2
                  exact HST.out _ h1 (by simp) h2
                clear hlo
                obtain ⟨g, _, s1⟩ := ho.shows
                have hje2 : (es.length : Int) ≤ (ce : Int) := by omega
                have hbl8 : es.length ≤ 2199023255554 := by omega
                by_cases hca : ce = es.length
                case' pos => subst hca
                case' neg => have hcb : ¬ ce ≤ es.length := by omega
                all_goals
                  go_wp2_with (first
                    | (at_builtin
                       refine wpList_appendG (natC .u64) _ rfl (.tmp 60) (.tmp 63) 78 rfl wb.heap.size 27 (.int .u64 0) 8 Try.underlying78 infoU64 rfl (.slice none 0 0) [] rfl (OwnG.nil_ _ _ _ _) g _ es rfl s1 (by simp; omega) (by simp; omega) (Nat.le_refl _) ?_
                       intro v4 w4 ho4 hg4
                       rw [List.nil_append] at ho4
                       have hb4 : Below wb.heap.size wb w4 := (Below.refl _ _).grown hg4 (Nat.le_refl _) (by simp [Value.ownBlock]))
                    | (at_builtin
                       refine wpList_appendG (natC .u64) _ rfl (.tmp 65) (.tmp 67) 78 rfl wb.heap.size 27 (.int .u64 0) 8 Try.underlying78 infoU64 rfl v4 es rfl (ho4.alloc_ _) w4.heap.size (.slice (some ⟨w4.heap.size, 0, none⟩) 1 1) [x] rfl (ShowsG.lit (C := natC .u64) [x] (by simp [Code.all, natC]) (by simp [maxLen])) (by simp; omega) (by simp; omega) (by have := hb4.size; simp; omega) ?_
                       intro v5 w5 ho5 hg5
                       have hb5 : Below wb.heap.size wb w5 := (hb4.alloc hb4.size _).grown hg5 (by have := hb4.size; simp; omega) (fun q hq => (ho4.block q hq).1))
                    | (at_builtin
                       refine wpList_appendG (natC .u64) _ rfl (.tmp 69) (.tmp 72) 78 rfl wb.heap.size 27 (.int .u64 0) 8 Try.underlying78 infoU64 rfl v5 (es ++ [x]) rfl ho5 g _ [] rfl (ShowsG.empty _ _ _ _ _ (by simp only [maxLen] at hcm ⊢; omega)) (by simp; omega) (by simp; omega) hb5.size ?_
                       intro v6 w6 ho6 hg6))
                  rw [List.append_nil] at ho6
                  have hb6 : Below wb.heap.size wb w6 := hb5.grown hg6 hb5.size (fun q hq => (ho5.block q hq).1)
                  go_roundw
                  case rel => exact ⟨kk + 1, _, by omega, by go_num, HE.out, ho6.mono hbw.size, hbw.trans (hb6.mono hbw.size)⟩
                  case measure => simp [intOf]; omega
        · obtain rfl : kk = 2 := by omega
          go_wp2_with fail
          go_roundw
          case rel => exact ⟨i + 1, es, by omega, by go_num, edgeAt_next hlt hat, ho, hbw⟩
          case measure => simp [intOf]; omega
    · obtain rfl : i = l.length := by omega
      have hE := edgeAt_end hat
      have hL := hat.2.1
      go_wp2_with fail
      go_ret
      exact ⟨_, es, rfl, ho, hE, by omega, hbw⟩

end Go.Proofs.Ytpchjgeehejkeaa
