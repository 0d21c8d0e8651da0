/-
  The document's Find, Used, List, drop, put of disks.
  Conditions: none but sizes.
-/
import Derived.Test.YtngjmeohleoglaaDqA
import Derived.Test.YtngjmeohleoglaaDiT
namespace Go.Proofs.Ytngjmeohleoglaa
open Go.RowKit Go.Shelf
set_option linter.unusedVariables false
set_option linter.unusedSimpArgs false
set_option maxRecDepth 100000

/-- Where a file is. -/
def FoundQ (st : DD) (q : DName) (r : Int) : Prop := (r = -1 ∧ getA q st.fs = none) ∨ ∃ (i : Nat) (f : FD), r = (i : Int) ∧ st.fs[i]? = some (q, f) ∧ getA q st.fs = some f
section
variable {w w' : World} {base qb room fuse n : Nat} {down : Bool} {v : Value} {st : DD}
theorem str_eq (a b : DName) : ((str8 a).toList == (str8 b).toList) = decide (a = b) := by
  rw [str8_toList, str8_toList]
  by_cases h : a = b <;> simp [h]

theorem qfindD_any (h : QI w base qb v st) (hr : Rising st.fs) (q : DName) (hn : st.fs.length ≤ 1000000) : Calls Try.prog 51 #[.pointer (some ⟨qb, 0, none⟩), .string (str8 q)] w fun e w' => ∃ r, e = .returned (.int .i64 r) ∧ FoundQ st q r ∧ w' = w := by
  have HQ := Lib.hid h
  have HR := Lib.hid hr
  have c0 := h.box.c0
  obtain ⟨A, c, hv, _, _⟩ := h.row.form
  subst hv
  clear h hr
  go_enter Try.func51, Try.ntmps51
  go_wp2_with fail
  go_loopw [5] (fun i wr => ∃ j : Nat, j ≤ st.fs.length ∧ i = .int .i64 j ∧ wr = w ∧ ∀ k (h : k < st.fs.length), k < j → st.fs[k].1 ≠ q) (fun i _ => st.fs.length - (intOf i).toNat)
  case atStart => exact ⟨0, by omega, rfl, rfl, fun k _ h => absurd h (by omega)⟩
  case round =>
    obtain ⟨j, hj, rfl, rfl, hne⟩ := hrel
    by_cases hlt : j < st.fs.length
    · obtain ⟨b, c', hv, k0, k1, k2, _⟩ := HQ.out.cells hlt
      simp only [Value.slice.injEq, true_and] at hv
      obtain ⟨rfl, rfl⟩ := hv
      have b1 : (j : Int) < (st.fs.length : Int) := by omega
      have b3 : IntKind.i64.wrap ((j : Int) + 1) = (j : Int) + 1 := i64_id _ (by omega) (by omega)
      have k0' : wr.cell? ⟨b, j * 3, none⟩ = some (.string (str8 st.fs[j].1)) := k0
      have hse := str_eq st.fs[j].1 q
      by_cases he : st.fs[j].1 = q
      · have HF := Lib.hid (show FoundQ st q (j : Int) from .inr ⟨j, st.fs[j].2, rfl, by rw [List.getElem?_eq_getElem hlt, ← he], getA_of_mem HR.out.nodup (by rw [← he]; exact List.getElem_mem hlt)⟩)
        have ht : decide (st.fs[j].1 = q) = true := by simpa using he
        rw [ht] at hse
        clear he ht hne
        generalize st.fs[j] = y at *
        go_wp2_with fail
        go_ret
        exact ⟨_, rfl, HF.out, rfl⟩
      · have ht : decide (st.fs[j].1 = q) = false := by simpa using he
        rw [ht] at hse
        have HN := Lib.hid (show ∀ k (h : k < st.fs.length), k < j + 1 → st.fs[k].1 ≠ q from fun k hk hkj => by
          by_cases c : k < j
          · exact hne k hk c
          · obtain rfl : k = j := by omega
            exact he)
        clear he ht hne
        go_wp2_with fail
        go_roundw
        case rel => exact ⟨j + 1, by omega, by go_num, trivial, HN.out⟩
        case measure => simp [intOf]; omega
    · have b1 : ¬ j < st.fs.length := hlt
      have HF := Lib.hid (show FoundQ st q (-1) from .inl ⟨rfl, getA_none fun x hx => by
        obtain ⟨k, hk, rfl⟩ := List.getElem_of_mem hx
        exact hne k hk (by omega)⟩)
      clear hne
      go_wp2_with fail
      go_ret
      exact ⟨_, rfl, HF.out, rfl⟩

theorem usedL_take (l : DRow) (j : Nat) (h : j < l.length) : usedL (l.take (j + 1)) = usedL (l.take j) + l[j].2.b.length := by
  rw [List.take_succ_eq_append_getElem h, usedL_append]; simp [usedL]
theorem usedL_take_le (l : DRow) (j : Nat) : usedL (l.take j) ≤ usedL l := by
  have := usedL_append (l.take j) (l.drop j)
  rw [List.take_append_drop] at this
  omega
theorem qused_any (h : QI w base qb v st) (hu : usedL st.fs ≤ 9223372036854775807) (hn : st.fs.length ≤ 1000000) : Calls Try.prog 38 #[.pointer (some ⟨qb, 0, none⟩)] w fun e w' => e = .returned (.int .i64 (usedL st.fs)) ∧ w' = w := by
  have HQ := Lib.hid h
  have HU := Lib.hid hu
  have c0 := h.box.c0
  obtain ⟨A, c, hv, _, _⟩ := h.row.form
  subst hv
  clear h hu
  go_enter Try.func38, Try.ntmps38
  go_wp2_with fail
  go_loopw [3, 4] (fun s i wr => ∃ j : Nat, j ≤ st.fs.length ∧ i = .int .i64 j ∧ wr = w ∧ s = .int .i64 (usedL (st.fs.take j))) (fun _ i _ => st.fs.length - (intOf i).toNat)
  case atStart => exact ⟨0, by omega, rfl, rfl, rfl⟩
  case round =>
    obtain ⟨j, hj, rfl, rfl, rfl⟩ := hrel
    by_cases hlt : j < st.fs.length
    · obtain ⟨b, c', hv, k0, k1, k2, _⟩ := HQ.out.cells hlt
      simp only [Value.slice.injEq, true_and] at hv
      obtain ⟨rfl, rfl⟩ := hv
      have b1 : (j : Int) < (st.fs.length : Int) := by omega
      have b3 : IntKind.i64.wrap ((j : Int) + 1) = (j : Int) + 1 := i64_id _ (by omega) (by omega)
      have hs := usedL_take st.fs j hlt
      have hl1 := usedL_take_le st.fs (j + 1)
      have hl2 := HU.out
      have hz : (str8 st.fs[j].2.b).size = st.fs[j].2.b.length := str8_size _
      obtain ⟨m, hm⟩ : ∃ m, m = usedL (st.fs.take (j + 1)) := ⟨_, rfl⟩
      have b4 : IntKind.i64.wrap ((usedL (st.fs.take j) : Int) + ((str8 st.fs[j].2.b).size : Int)) = (m : Int) := by rw [hz, i64_id _ (by omega) (by omega)]; omega
      have HM := Lib.hid hm
      clear hs hl1 hl2 hz hm
      generalize usedL (st.fs.take j) = u at *
      generalize str8 st.fs[j].2.b = sB at *
      go_wp2_with fail
      go_roundw
      case rel => exact ⟨j + 1, by omega, by go_num, trivial, by rw [HM.out]⟩
      case measure => simp [intOf]; omega
    · have hje : j = st.fs.length := by omega
      have b1 : ¬ j < st.fs.length := hlt
      have hu : usedL (st.fs.take j) = usedL st.fs := by rw [hje, List.take_length]
      clear hje
      go_wp2_with fail
      go_ret
      refine ⟨?_, ?_⟩
      all_goals first | rfl | trivial | (rw [hu]; rfl)
theorem qlist_any (h : QI w base qb v st) (hn : st.fs.length ≤ 1000000) : Calls Try.prog 37 #[.pointer (some ⟨qb, 0, none⟩)] w fun e w' => ∃ v', e = .returned v' ∧ OwnG nameC 9 w' w.heap.size v' (st.fs.map (·.1)) ∧ Below w.heap.size w w' := by
  have HQ := Lib.hid h
  obtain ⟨A, c, hv, _, _⟩ := h.row.form
  subst hv
  clear h
  go_enter Try.func37, Try.ntmps37
  go_wp2_with fail
  go_loopw [3, 4] (fun s i wr => ∃ j : Nat, j ≤ st.fs.length ∧ i = .int .i64 j ∧ Below w.heap.size w wr ∧ OwnG nameC 9 wr w.heap.size s ((st.fs.map (·.1)).take j)) (fun _ i _ => st.fs.length - (intOf i).toNat)
  case atStart => exact ⟨0, by omega, rfl, Below.refl _ _, OwnG.nil_ _ _ _ _⟩
  case round =>
    rename World => wr
    obtain ⟨j, hj, rfl, hbw, hown⟩ := hrel
    have hqr := HQ.out.below hbw
    have c0 := hqr.box.c0
    by_cases hlt : j < st.fs.length
    · obtain ⟨b, c', hv, k0, k1, k2, _⟩ := hqr.cells hlt
      simp only [Value.slice.injEq, true_and] at hv
      obtain ⟨rfl, rfl⟩ := hv
      have b1 : (j : Int) < (st.fs.length : Int) := by omega
      have b3 : IntKind.i64.wrap ((j : Int) + 1) = (j : Int) + 1 := i64_id _ (by omega) (by omega)
      have k0' : wr.cell? ⟨b, j * 3, none⟩ = some (.string (str8 st.fs[j].1)) := k0
      have htk : (st.fs.map (·.1)).take (j + 1) = (st.fs.map (·.1)).take j ++ [st.fs[j].1] := by
        rw [List.take_succ_eq_append_getElem (by simpa using hlt)]; simp
      have hlen : ((st.fs.map (·.1)).take j).length ≤ 1000000 := by simp; omega
      have HT := Lib.hid htk
      generalize hL : (st.fs.map (·.1)).take j = L at *
      generalize hy : st.fs[j].1 = y at *
      obtain ⟨Av, cv, rfl, _, _⟩ := hown.form
      have hwl := hbw.size
      clear k0 k1 k2 htk hL hy hqr
      go_wp2_with (at_builtin
                   refine wpList_appendG nameC _ rfl (.tmp 14) (.tmp 23) 37 rfl w.heap.size 9 (.string ⟨#[]⟩) 16 Try.underlying37 infoStrD rfl _ L rfl (hown.alloc_ _) wr.heap.size (.slice (some ⟨wr.heap.size, 0, none⟩) 1 1) [y] rfl (ShowsG.lit (C := nameC) (w := wr) [y] rfl (by simp [maxLen])) (by simp; omega) (by simp; omega) (by simp; omega) ?_
                   intro v5 w5 ho5 hg5)
      have hb5 : Below w.heap.size w w5 := (hbw.alloc hbw.size _).grown hg5 (by simp; omega) (fun k hk => (hown.block k hk).1)
      go_roundw
      case rel => exact ⟨j + 1, by omega, by go_num, hb5, by rw [HT.out]; exact ho5⟩
      case measure => simp [intOf]; omega
    · have hje : j = st.fs.length := by omega
      have b1 : ¬ j < st.fs.length := hlt
      have hown' := hown
      rw [hje, show st.fs.length = (st.fs.map (·.1)).length by simp, List.take_length] at hown'
      have HO := Lib.hid hown'
      clear hje hown hown' hqr
      go_wp2_with fail
      go_ret
      exact ⟨_, rfl, HO.out, hbw⟩
end

end Go.Proofs.Ytngjmeohleoglaa
