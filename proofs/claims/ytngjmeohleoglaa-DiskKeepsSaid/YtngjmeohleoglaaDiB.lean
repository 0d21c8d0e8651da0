/-
  The contracts of disk's isName and of the document's May.
  Conditions: none but sizes.
-/
import Derived.Test.YtngjmeohleoglaaDiA
namespace Go.Proofs.Ytngjmeohleoglaa
open Go.RowKit
set_option linter.unusedVariables false
set_option linter.unusedSimpArgs false
set_option maxRecDepth 100000

theorem okName_iff (l : List UInt8) : okName l = true ↔ 0 < l.length ∧ l.length ≤ 40 ∧ ∀ j (h : j < l.length), okByte l[j] = true := by
  simp only [okName, Bool.and_eq_true, decide_eq_true_eq, List.all_eq_true, and_assoc]
  refine and_congr Iff.rfl (and_congr Iff.rfl ⟨fun h j hj => h _ (List.getElem_mem hj), fun h x hx => ?_⟩)
  obtain ⟨j, hj, rfl⟩ := List.getElem_of_mem hx
  exact h j hj
theorem okName_false {l : List UInt8} (h : ¬ (0 < l.length ∧ l.length ≤ 40 ∧ ∀ j (h : j < l.length), okByte l[j] = true)) : okName l = false := by
  cases e : okName l with
  | false => rfl
  | true => exact absurd ((okName_iff l).1 e) h

theorem isName_any (s : ByteArray) (w : World) (hs : s.size ≤ 140737488355328) : Calls Try.prog 46 #[.string s] w fun e w' => e = .returned (.bool (okName (sb s))) ∧ w' = w := by
  obtain ⟨R, hR⟩ : ∃ R, R = okName (sb s) := ⟨_, rfl⟩
  rw [← hR]
  have HR := Lib.hid hR
  clear hR
  have hl := sb_length s
  by_cases h0 : s.size = 0
  · have ht : (s.toList == []) = true := by rw [sb_toList, List.eq_nil_of_length_eq_zero (hl.trans h0)]; rfl
    have hf : R = false := HR.out.trans (okName_false (by omega))
    clear hl h0
    go_enter Try.func46, Try.ntmps46
    go_wp2_with fail
    go_ret
    first | exact ⟨rfl, rfl⟩ | exact ⟨by rw [hf]; rfl, rfl⟩
  have ht : (s.toList == []) = false := by
    rw [sb_toList]
    cases e : sb s with
    | nil => rw [e] at hl; simp at hl; omega
    | cons x r => rfl
  by_cases h40 : 40 < s.size
  · have hf : R = false := HR.out.trans (okName_false (by omega))
    have h40' : decide ((40 : Int) < (s.size : Int)) = true := by simp; omega
    clear hl h0
    go_enter Try.func46, Try.ntmps46
    go_wp2_with fail
    go_ret
    first | exact ⟨rfl, rfl⟩ | exact ⟨by rw [hf]; rfl, rfl⟩
  have h40' : decide ((40 : Int) < (s.size : Int)) = false := by simp; omega
  have HL := Lib.hid hl
  have HP := Lib.hid (show 0 < s.size by omega)
  have H40 := Lib.hid h40
  clear hl h0 h40
  go_enter Try.func46, Try.ntmps46
  go_wp2_with fail
  go_loopw [13] (fun i wr => ∃ j : Nat, j ≤ s.size ∧ i = .int .i64 j ∧ wr = w ∧ ∀ k (h : k < (sb s).length), k < j → okByte (sb s)[k] = true) (fun i _ => s.size - (intOf i).toNat)
  case atStart => exact ⟨0, by omega, rfl, rfl, fun k _ h => absurd h (by omega)⟩
  case round =>
    obtain ⟨j, hj, rfl, rfl, hok⟩ := hrel
    have hl := HL.out
    have h40 := H40.out
    by_cases hlt : j < s.size
    · have b1 : (j : Int) < (s.size : Int) := by omega
      have b3 : IntKind.i64.wrap ((j : Int) + 1) = (j : Int) + 1 := i64_id _ (by omega) (by omega)
      have e1 : (sb s)[j]'(by omega) = s[j] := rfl
      by_cases hb : okByte s[j] = true
      · have HS := Lib.hid (show ∀ k (h : k < (sb s).length), k < j + 1 → okByte (sb s)[k] = true from fun k hk hkj => by
          by_cases c : k < j
          · exact hok k hk c
          · obtain rfl : k = j := by omega
            rw [e1]; exact hb)
        have t1 : decide ((s[j].toNat : Int) < 33) = false := by simp [okByte] at hb; simp; omega
        have t2 : decide ((126 : Int) < (s[j].toNat : Int)) = false := by simp [okByte] at hb; simp; omega
        clear hb hok e1 hl h40
        go_wp2_with fail
        go_roundw
        case rel => exact ⟨j + 1, by omega, by go_num, trivial, HS.out⟩
        case measure => simp [intOf]; omega
      · have hf : R = false := HR.out.trans (okName_false fun h => hb (by have := h.2.2 j (by omega); rwa [e1] at this))
        by_cases h33 : s[j].toNat < 33
        case' pos => have t1 : decide ((s[j].toNat : Int) < 33) = true := by simp; omega
        case' neg =>
          have t1 : decide ((s[j].toNat : Int) < 33) = false := by simp; omega
          have t2 : decide ((126 : Int) < (s[j].toNat : Int)) = true := by simp [okByte] at hb; simp; omega
        all_goals
          clear hb hok e1 hl h40 h33
          go_wp2_with fail
          go_ret
          first | exact ⟨rfl, rfl⟩ | exact ⟨by rw [hf]; rfl, rfl⟩
    · have hf : R = true := HR.out.trans ((okName_iff _).2 ⟨by have := HP.out; omega, by omega, fun k hk => hok k hk (by omega)⟩)
      have b1 : ¬ (j : Int) < (s.size : Int) := by omega
      clear hok hl h40
      go_wp2_with fail
      go_ret
      first | exact ⟨rfl, rfl⟩ | exact ⟨by rw [hf]; rfl, rfl⟩

end Go.Proofs.Ytngjmeohleoglaa
