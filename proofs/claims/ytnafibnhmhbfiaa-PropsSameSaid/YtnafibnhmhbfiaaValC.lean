/-
  The contracts of strings.HasPrefix and value.isText: a string is UTF-8 just if no step of the decoder answers the rune of an error that stands there in one byte.
  Conditions: at most 2^47 bytes.
-/
import Derived.Test.YtnafibnhmhbfiaaV5C
import Derived.Laws.RangeAny
import Derived.Lib.OthersKept
import Derived.Lib.ValidLaws
import Derived.WalkSpells
import Derived.WalkKit
namespace Go.Proofs.Ytnafibnhmhbfiaa
open Go.RowKit
set_option linter.unusedVariables false
set_option linter.unusedSimpArgs false

theorem decodeN_err (n b0 b1 b2 b3 : Nat) (h : (Lib.decodeN n b0 b1 b2 b3).1 = 65533) (h1 : b1 < 256) (h2 : b2 < 256) (h0 : b0 < 256) : ((Lib.decodeN n b0 b1 b2 b3).2 = 1 ∧ ¬ (2 < n ∧ b0 = 239 ∧ b1 = 191 ∧ b2 = 189)) ∨ ((Lib.decodeN n b0 b1 b2 b3).2 = 3 ∧ 2 < n ∧ b0 = 239 ∧ b1 = 191 ∧ b2 = 189) := by
  unfold Lib.decodeN at h ⊢
  repeat' split
  all_goals (simp_all <;> omega)

/-- The rune that stands for an error, in its three bytes. -/
def errS : ByteArray := ⟨#[239, 191, 189]⟩
def preD (s p : ByteArray) : Bool := decide (p.size ≤ s.size ∧ s.extract 0 p.size = p)

theorem hasPrefix1 (s p : ByteArray) (w : World) : Calls Try.prog 96 #[.string s, .string p] w fun e w' => e = .returned (.bool (preD s p)) ∧ w = w' := by
  unfold preD
  by_cases h1 : p.size ≤ s.size
  · have hI : (p.size : Int) ≤ (s.size : Int) := by omega
    by_cases h2 : s.extract 0 p.size = p
    · rw [show decide (p.size ≤ s.size ∧ s.extract 0 p.size = p) = true from decide_eq_true ⟨h1, h2⟩]
      go_enter Try.func96, Try.ntmps96
      go_wp2_with fail
      go_ret
      exact ⟨rfl, rfl⟩
    · rw [show decide (p.size ≤ s.size ∧ s.extract 0 p.size = p) = false from decide_eq_false fun h => h2 h.2]
      have h3 := toListNe h2
      go_enter Try.func96, Try.ntmps96
      go_wp2_with fail
      go_ret
      exact ⟨rfl, rfl⟩
  · rw [show decide (p.size ≤ s.size ∧ s.extract 0 p.size = p) = false from decide_eq_false fun h => h1 h.1]
    have hI : ¬ (p.size : Int) ≤ (s.size : Int) := by omega
    go_enter Try.func96, Try.ntmps96
    go_wp2_with fail
    go_ret
    exact ⟨rfl, rfl⟩

theorem hasPrefix_any (s p : ByteArray) (w : World) : Calls Try.prog 95 #[.string s, .string p] w fun e w' => e = .returned (.bool (preD s p)) ∧ w = w' := by
  have h := fun w => hasPrefix1 s p w
  have HH := Lib.hid h
  clear h
  generalize preD s p = r at *
  go_enter Try.func95, Try.ntmps95
  go_wp2_with fail
  refine (HH.out _).mono ?_
  rintro e w' ⟨rfl, rfl⟩
  go_wp2_with fail
  go_ret
  exact ⟨rfl, rfl⟩

theorem sb_extract (s : ByteArray) (a b : Nat) : sb (s.extract a b) = ((sb s).take b).drop a := by
  simp [sb, ByteArray.data_extract, Array.toList_extract, List.extract, List.drop_take]
theorem sb_inj {a b : ByteArray} (h : sb a = sb b) : a = b := by rw [← str8_sb a, h, str8_sb]
theorem pre_err (s : ByteArray) (pos : Nat) : preD (s.extract pos s.size) errS = true ↔ (2 < ((sb s).drop pos).length ∧ (((sb s).drop pos).getD 0 0).toNat = 239 ∧ (((sb s).drop pos).getD 1 0).toNat = 191 ∧ (((sb s).drop pos).getD 2 0).toNat = 189) := by
  have ht : sb (s.extract pos s.size) = (sb s).drop pos := by rw [sb_extract, List.take_of_length_le (by rw [sb_length]; exact Nat.le_refl _)]
  generalize s.extract pos s.size = t at *
  rw [← ht]
  have h3 : errS.size = 3 := rfl
  unfold preD
  rw [decide_eq_true_iff, h3, ← sb_length t]
  have he : t.extract 0 3 = errS ↔ (sb t).take 3 = [239, 191, 189] := by
    constructor
    · intro h
      have := congrArg sb h
      rw [sb_extract, List.drop_zero] at this
      exact this
    · intro h
      apply sb_inj
      rw [sb_extract, List.drop_zero]
      exact h
  rw [he]
  have hb : ∀ (x : UInt8) (n : Nat), n < 256 → (x.toNat = n ↔ x = UInt8.ofNat n) := fun x n hn => ⟨fun h => by rw [← h]; simp, fun h => by rw [h]; simp; omega⟩
  rw [hb _ 239 (by decide), hb _ 191 (by decide), hb _ 189 (by decide)]
  match sb t with
  | [] => simp
  | [a] => simp
  | [a, b] => simp
  | a :: b :: c :: r => simp [List.getD]

/-- What the program asks of a rune that may be an error's. -/
theorem text_step (s : ByteArray) (pos : Nat) (h : pos < s.size) :
    Lib.validD ((sb s).drop pos) = if (Utf8.decode s pos).1 = 65533 ∧ preD (s.extract pos s.size) errS = false then false else Lib.validD ((sb s).drop (pos + (Utf8.decode s pos).2)) := by
  have hl : pos < (sb s).length := by rw [sb_length]; exact h
  have hne : (sb s).drop pos ≠ [] := fun h0 => by have := congrArg List.length h0; simp at this; omega
  have hd : Lib.decodeL ((sb s).drop pos) = Utf8.decode s pos := Lib.decodeL_drop s pos
  rw [Lib.validD_step _ hne, hd, List.drop_drop]
  have key : (Utf8.decode s pos).1 = 65533 → ((Utf8.decode s pos).2 = 1 ↔ preD (s.extract pos s.size) errS = false) := by
    intro h1
    have hp := pre_err s pos
    rw [← hd, Lib.decodeL_N] at h1 ⊢
    have hd := decodeN_err _ _ _ _ _ h1 (((sb s).drop pos).getD 1 0).toNat_lt (((sb s).drop pos).getD 2 0).toNat_lt (((sb s).drop pos).getD 0 0).toNat_lt
    rcases hd with ⟨h2, h3⟩ | ⟨h2, h3⟩
    · rw [h2]
      simp only [true_iff]
      cases hb : preD (s.extract pos s.size) errS with
      | false => rfl
      | true => exact absurd (hp.1 hb) h3
    · rw [hp.2 h3, h2]
      simp
  by_cases h1 : (Utf8.decode s pos).1 = 65533
  · by_cases h2 : (Utf8.decode s pos).2 = 1
    · rw [if_pos ⟨h1, h2⟩, if_pos ⟨h1, (key h1).1 h2⟩]
    · rw [if_neg fun h => h2 h.2, if_neg fun h => h2 ((key h1).2 h.2)]
  · rw [if_neg fun h => h1 h.1, if_neg fun h => h1 h.1]

theorem decode_end (s : ByteArray) (pos : Nat) (h : pos < s.size) : pos + (Utf8.decode s pos).2 ≤ s.size ∧ 1 ≤ (Utf8.decode s pos).2 := by
  have hl : pos < (sb s).length := by rw [sb_length]; exact h
  have hne : (sb s).drop pos ≠ [] := fun h0 => by have := congrArg List.length h0; simp at this; omega
  have hd : Lib.decodeL ((sb s).drop pos) = Utf8.decode s pos := Lib.decodeL_drop s pos
  have h1 := Lib.decodeL_le _ hne
  have h2 := Lib.decodeL_width ((sb s).drop pos)
  rw [hd] at h1 h2
  rw [List.length_drop, sb_length] at h1
  omega

set_option maxRecDepth 100000 in
set_option maxHeartbeats 1000000 in
theorem isText_any (s : ByteArray) (w : World) (hs : s.size ≤ 140737488351232) :
    Calls Try.prog 87 #[.string s] w fun e w' => e = .returned (.bool (Lib.validD (sb s))) ∧ Below w.heap.size w w' := by
  have HP := Lib.hid (fun t w => hasPrefix_any t errS w)
  have HE := Lib.hid (show errS = ⟨#[239, 191, 189]⟩ from rfl)
  have HS := Lib.hid (text_step s)
  have HD := Lib.hid (decode_end s)
  obtain ⟨R, hR⟩ : ∃ R, R = Lib.validD (sb s) := ⟨_, rfl⟩
  rw [← hR]
  have HR := Lib.hid hR
  clear hR
  go_enter Try.func87, Try.ntmps87
  go_wp2_with fail
  go_loopw [] (fun w' => ∃ pos : Nat, pos ≤ s.size ∧ w' = w.iter s pos ∧ Hid (R = Lib.validD ((sb s).drop pos))) (fun w' => s.size - w'.iterPos w.heap.size)
  case atStart => exact ⟨0, by omega, rfl, HR⟩
  case round =>
    obtain ⟨pos, hp, rfl, H⟩ := hrel
    by_cases hlt : pos < s.size
    · have hnx : ∀ ty, (Instr.next (.pointer (some ⟨w.heap.size, 0, none⟩)) true ty).run Try.prog (w.iter s pos) = _ := fun ty => run_next_any w s pos ty hlt
      obtain ⟨d1, d2⟩ := HD.out pos hlt
      have hst := HS.out pos hlt
      have hpr := HP.out (s.extract pos s.size)
      rw [HE.out] at hpr hst
      generalize (Utf8.decode s pos).2 = wd at *
      generalize (Utf8.decode s pos).1 = rn at *
      generalize preD (s.extract pos s.size) ⟨#[239, 191, 189]⟩ = pr at *
      have HPR := Lib.hid hpr
      have hpI : (pos : Int) ≤ (s.size : Int) := by omega
      clear hpr
      by_cases hr : rn = 65533
      · subst hr
        cases pr with
        | true =>
          rw [if_neg (by simp)] at hst
          have HST := Lib.hid hst
          clear hst
          go_wp2_with fail
          refine (HPR.out _).mono ?_
          rintro e w' ⟨rfl, rfl⟩
          go_wp2_with fail
          go_roundw
          case rel => exact ⟨pos + wd, d1, rfl, Lib.hid (H.out.trans HST.out)⟩
          case measure => simp; omega
        | false =>
          rw [if_pos ⟨rfl, rfl⟩] at hst
          have HST := Lib.hid hst
          clear hst
          go_wp2_with fail
          refine (HPR.out _).mono ?_
          rintro e w' ⟨rfl, rfl⟩
          go_wp2_with fail
          go_ret
          exact ⟨by rw [H.out, HST.out]; rfl, (Below.refl _ _).alloc (Nat.le_refl _) _⟩
      · have hr2 : ((rn : Int) == 65533) = false := by simp; omega
        rw [if_neg (fun h => hr h.1)] at hst
        have HST := Lib.hid hst
        clear hst
        go_wp2_with fail
        go_roundw
        case rel => exact ⟨pos + wd, d1, rfl, Lib.hid (H.out.trans HST.out)⟩
        case measure => simp; omega
    · have hnx : ∀ ty, (Instr.next (.pointer (some ⟨w.heap.size, 0, none⟩)) true ty).run Try.prog (w.iter s pos) = _ := fun ty => run_next_end w s pos ty hlt
      have hfin : R = true := by
        rw [H.out, List.drop_eq_nil_of_le (by rw [sb_length]; omega)]
        rfl
      subst hfin
      go_wp2_with fail
      go_ret
      exact ⟨rfl, (Below.refl _ _).alloc (Nat.le_refl _) _⟩

end Go.Proofs.Ytnafibnhmhbfiaa
