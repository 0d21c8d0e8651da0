/-
  Texts, together: V5F, V5G.
  Conditions: none but sizes.
-/
import Derived.WalkKit
import Derived.Deep.DeepCutAuto
import Derived.Deep.CutBlock
import Derived.WalkSpells
import Derived.Test.YtpmafabphlejeaaGreatMemZ
import Derived.Test.YtpmafabphlejeaaGreatV5AZ
/-
  The contract of the document's own UTF8.
  Conditions: none but sizes.
-/
namespace Go.Proofs.YtpmafabphlejeaaGreat
open Go.RowKit
set_option linter.unusedVariables false
set_option linter.unusedSimpArgs false

/-- What a text's byte asks of those behind it: how many bytes in all, and the bounds of the second. -/
def leadD (c : Nat) : Nat × Nat × Nat :=
  if c < 128 then (1, 128, 191) else if 194 ≤ c ∧ c ≤ 223 then (2, 128, 191)
  else if 224 ≤ c ∧ c ≤ 239 then (3, if c = 224 then 160 else 128, if c = 237 then 159 else 191)
  else if 240 ≤ c ∧ c ≤ 244 then (4, if c = 240 then 144 else 128, if c = 244 then 143 else 191) else (0, 128, 191)
def contD : Nat → Nat → List UInt8 → Bool
  | _, _, [] => true
  | lo, hi, x :: r => decide (lo ≤ x.toNat ∧ x.toNat ≤ hi) && contD 128 191 r
def utf8D : Nat → List UInt8 → Bool
  | _, [] => true
  | 0, _ :: _ => false
  | f + 1, c :: r => decide ((leadD c.toNat).1 ≠ 0 ∧ (leadD c.toNat).1 ≤ r.length + 1) && contD (leadD c.toNat).2.1 (leadD c.toNat).2.2 (r.take ((leadD c.toNat).1 - 1)) && utf8D f (r.drop ((leadD c.toNat).1 - 1))

set_option maxRecDepth 100000 in
set_option maxHeartbeats 8000000 in
theorem qutf8_any (s : ByteArray) (w : World) (hs : s.size ≤ 140737488351232) :
    Calls Tryz.prog 145 #[.string s] w fun e w' => e = .returned (.bool (utf8D s.size (sb s))) ∧ w' = w := by
  obtain ⟨R, hR⟩ : ∃ R, R = utf8D s.size (sb s) := ⟨_, rfl⟩
  rw [← hR]
  have HR := Lib.hid hR
  clear hR
  go_enter Tryz.func145, Tryz.ntmps145
  go_wp2_with fail
  go_loop [3, 4, 5, 6, 7, 8, 9] (fun at_ _ _ _ _ _ _ => ∃ k f : Nat, k ≤ s.size ∧ at_ = .int .i64 k ∧ s.size ≤ f + k ∧ R = utf8D f ((sb s).drop k)) (fun at_ _ _ _ _ _ _ => s.size - (intOf at_).toNat)
  case atStart => exact ⟨0, s.size, by omega, rfl, by omega, by rw [HR.out]; rfl⟩
  case round =>
    obtain ⟨k, f, hk, rfl, hf, hRk⟩ := hrel
    by_cases hlt : k < s.size
    · have b1 : (k : Int) < (s.size : Int) := by omega
      obtain ⟨n, lo, hi, hL⟩ : ∃ n lo hi, leadD (s[k]'hlt).toNat = (n, lo, hi) := ⟨_, _, _, rfl⟩
      have hn4 : n ≤ 4 := by
        have : (leadD (s[k]'hlt).toNat).1 ≤ 4 := by unfold leadD; repeat' split
                                                    all_goals simp
        rw [hL] at this
        exact this
      have hRk' := Lib.hid hRk
      have HL := Lib.hid hL
      clear hRk hL
      have hc8 := (s[k]'hlt).toNat_lt
      have hw : wrap64 (((s[k]'hlt).toNat : Nat) : Int) = (((s[k]'hlt).toNat : Nat) : Int) := w64_id _ (by omega) (by omega)
      obtain ⟨c, hc⟩ : ∃ c, c = (s[k]'hlt).toNat := ⟨_, rfl⟩
      have HC := Lib.hid hc
      go_upto_block 2 with fail
      rw [← hc] at hw HL hc8 ⊢
      clear hc
      go_cut [5, 6, 7] (fun x y z wx => x = .int .i64 n ∧ y = .int .i64 lo ∧ z = .int .i64 hi ∧ wx = w)
      case first =>
        clear hw
        by_cases k1 : c < 128
        · have hLL : leadD c = (1, 128, 191) := by unfold leadD; rw [if_pos k1]
          obtain ⟨rfl, rfl, rfl⟩ : n = 1 ∧ lo = 128 ∧ hi = 191 := by have := HL.out.symm.trans hLL; simpa using this
          have q0 : (c : Int) < 128 := by first | omega | (simp; omega)
          clear hLL
          go_wp2_with fail
          go_meet
          exact ⟨rfl, rfl, rfl, rfl⟩
        by_cases k2 : 194 ≤ c ∧ c ≤ 223
        · have hLL : leadD c = (2, 128, 191) := by unfold leadD; rw [if_neg k1, if_pos k2]
          obtain ⟨rfl, rfl, rfl⟩ : n = 2 ∧ lo = 128 ∧ hi = 191 := by have := HL.out.symm.trans hLL; simpa using this
          have q0 : ¬ (c : Int) < 128 := by first | omega | (simp; omega)
          have q1 : 194 ≤ (c : Int) := by first | omega | (simp; omega)
          have q2 : (c : Int) ≤ 223 := by first | omega | (simp; omega)
          clear hLL
          go_wp2_with fail
          go_meet
          exact ⟨rfl, rfl, rfl, rfl⟩
        by_cases k3 : 224 ≤ c ∧ c ≤ 239
        · by_cases k4 : c = 224
          · subst k4
            have hLL : leadD 224 = (3, 160, 191) := by unfold leadD; rfl
            obtain ⟨rfl, rfl, rfl⟩ : n = 3 ∧ lo = 160 ∧ hi = 191 := by have := HL.out.symm.trans hLL; simpa using this
            clear hLL
            go_wp2_with fail
            go_meet
            exact ⟨rfl, rfl, rfl, rfl⟩
          by_cases k5 : c = 237
          · subst k5
            have hLL : leadD 237 = (3, 128, 159) := by unfold leadD; rfl
            obtain ⟨rfl, rfl, rfl⟩ : n = 3 ∧ lo = 128 ∧ hi = 159 := by have := HL.out.symm.trans hLL; simpa using this
            clear hLL
            go_wp2_with fail
            go_meet
            exact ⟨rfl, rfl, rfl, rfl⟩
          have hLL : leadD c = (3, 128, 191) := by unfold leadD; rw [if_neg k1, if_neg k2, if_pos k3, if_neg k4, if_neg k5]
          obtain ⟨rfl, rfl, rfl⟩ : n = 3 ∧ lo = 128 ∧ hi = 191 := by have := HL.out.symm.trans hLL; simpa using this
          have q0 : ¬ (c : Int) < 128 := by first | omega | (simp; omega)
          have q1 : 194 ≤ (c : Int) := by first | omega | (simp; omega)
          have q2 : ¬ (c : Int) ≤ 223 := by first | omega | (simp; omega)
          have q3 : 224 ≤ (c : Int) := by first | omega | (simp; omega)
          have q4 : (c : Int) ≤ 239 := by first | omega | (simp; omega)
          have q5 : ((c : Int) == 224) = false := by first | omega | (simp; omega)
          have q6 : ((c : Int) == 237) = false := by first | omega | (simp; omega)
          clear hLL
          go_wp2_with fail
          go_meet
          exact ⟨rfl, rfl, rfl, rfl⟩
        by_cases k6 : 240 ≤ c ∧ c ≤ 244
        · by_cases k4 : c = 240
          · subst k4
            have hLL : leadD 240 = (4, 144, 191) := by unfold leadD; rfl
            obtain ⟨rfl, rfl, rfl⟩ : n = 4 ∧ lo = 144 ∧ hi = 191 := by have := HL.out.symm.trans hLL; simpa using this
            clear hLL
            go_wp2_with fail
            go_meet
            exact ⟨rfl, rfl, rfl, rfl⟩
          by_cases k5 : c = 244
          · subst k5
            have hLL : leadD 244 = (4, 128, 143) := by unfold leadD; rfl
            obtain ⟨rfl, rfl, rfl⟩ : n = 4 ∧ lo = 128 ∧ hi = 143 := by have := HL.out.symm.trans hLL; simpa using this
            clear hLL
            go_wp2_with fail
            go_meet
            exact ⟨rfl, rfl, rfl, rfl⟩
          have hLL : leadD c = (4, 128, 191) := by unfold leadD; rw [if_neg k1, if_neg k2, if_neg k3, if_pos k6, if_neg k4, if_neg k5]
          obtain ⟨rfl, rfl, rfl⟩ : n = 4 ∧ lo = 128 ∧ hi = 191 := by have := HL.out.symm.trans hLL; simpa using this
          have q0 : ¬ (c : Int) < 128 := by first | omega | (simp; omega)
          have q1 : 194 ≤ (c : Int) := by first | omega | (simp; omega)
          have q2 : ¬ (c : Int) ≤ 223 := by first | omega | (simp; omega)
          have q3 : 224 ≤ (c : Int) := by first | omega | (simp; omega)
          have q4 : ¬ (c : Int) ≤ 239 := by first | omega | (simp; omega)
          have q5 : 240 ≤ (c : Int) := by first | omega | (simp; omega)
          have q6 : (c : Int) ≤ 244 := by first | omega | (simp; omega)
          have q7 : ((c : Int) == 240) = false := by first | omega | (simp; omega)
          have q8 : ((c : Int) == 244) = false := by first | omega | (simp; omega)
          clear hLL
          go_wp2_with fail
          go_meet
          exact ⟨rfl, rfl, rfl, rfl⟩
        by_cases k7 : c < 194
        · have hLL : leadD c = (0, 128, 191) := by unfold leadD; rw [if_neg k1, if_neg k2, if_neg k3, if_neg k6]
          obtain ⟨rfl, rfl, rfl⟩ : n = 0 ∧ lo = 128 ∧ hi = 191 := by have := HL.out.symm.trans hLL; simpa using this
          have q0 : ¬ (c : Int) < 128 := by first | omega | (simp; omega)
          have q1 : ¬ 194 ≤ (c : Int) := by first | omega | (simp; omega)
          have q2 : ¬ 224 ≤ (c : Int) := by first | omega | (simp; omega)
          have q3 : ¬ 240 ≤ (c : Int) := by first | omega | (simp; omega)
          clear hLL
          go_wp2_with fail
          go_meet
          exact ⟨rfl, rfl, rfl, rfl⟩
        have hLL : leadD c = (0, 128, 191) := by unfold leadD; rw [if_neg k1, if_neg k2, if_neg k3, if_neg k6]
        obtain ⟨rfl, rfl, rfl⟩ : n = 0 ∧ lo = 128 ∧ hi = 191 := by have := HL.out.symm.trans hLL; simpa using this
        have q0 : ¬ (c : Int) < 128 := by first | omega | (simp; omega)
        have q1 : 194 ≤ (c : Int) := by first | omega | (simp; omega)
        have q2 : ¬ (c : Int) ≤ 223 := by first | omega | (simp; omega)
        have q3 : 224 ≤ (c : Int) := by first | omega | (simp; omega)
        have q4 : ¬ (c : Int) ≤ 239 := by first | omega | (simp; omega)
        have q5 : 240 ≤ (c : Int) := by first | omega | (simp; omega)
        have q6 : ¬ (c : Int) ≤ 244 := by first | omega | (simp; omega)
        clear hLL
        go_wp2_with fail
        go_meet
        exact ⟨rfl, rfl, rfl, rfl⟩
      case rest =>
        intros
        obtain ⟨rfl, rfl, rfl, rfl⟩ := hcut
        obtain ⟨f, rfl⟩ : ∃ f', f = f' + 1 := ⟨f - 1, by omega⟩
        have hcl : (sb s).drop k = (s[k]'hlt) :: (sb s).drop (k + 1) := by
          rw [List.drop_eq_getElem_cons (by rw [sb_length]; exact hlt)]
          rfl
        have hRe := hRk'.out
        rw [hcl, utf8D, ← HC.out, HL.out, List.length_drop, sb_length] at hRe
        simp only at hRe
        clear hcl HC HL hRk' hw hc8
        by_cases hn0 : n = 0
        · subst hn0
          obtain rfl : R = false := by rw [hRe]; simp
          clear hRe
          go_wp2_with fail
          go_ret
          exact ⟨rfl, rfl⟩
        have hn0' : ((n : Int) == 0) = false := by simp; omega
        have hsum : wrap64 ((k : Int) + (n : Int)) = (k : Int) + (n : Int) := w64_id _ (by omega) (by omega)
        have hsum' : IntKind.i64.wrap ((k : Int) + (n : Int)) = (k : Int) + (n : Int) := i64_id _ (by omega) (by omega)
        by_cases hfit : s.size < k + n
        · have hf1 : (s.size : Int) < (k : Int) + (n : Int) := by omega
          obtain rfl : R = false := by
            rw [hRe, decide_eq_false (by omega)]
            rfl
          clear hRe
          go_wp2_with fail
          go_ret
          exact ⟨rfl, rfl⟩
        have hf1 : ¬ (s.size : Int) < (k : Int) + (n : Int) := by omega
        rw [decide_eq_true (by omega), Bool.true_and, List.drop_drop, show k + 1 + (n - 1) = k + n by omega] at hRe
        have HRE := Lib.hid hRe
        clear hRe
        go_wp2_with fail
        go_loop [6, 7, 8, 9] (fun x y i _ => ∃ j lo' hi' : Nat, 1 ≤ j ∧ j ≤ n ∧ x = .int .i64 lo' ∧ y = .int .i64 hi' ∧ i = .int .i64 j ∧ contD lo hi (((sb s).drop (k + 1)).take (n - 1)) = contD lo' hi' (((sb s).drop (k + j)).take (n - j))) (fun _ _ i _ => n - (intOf i).toNat)
        case atStart => exact ⟨1, lo, hi, by omega, by omega, rfl, rfl, rfl, rfl⟩
        case round =>
          obtain ⟨j, lo', hi', hj1, hj, rfl, rfl, rfl, hct⟩ := hrel
          by_cases hjn : j < n
          · have hkj : k + j < s.size := by omega
            have b3 : (j : Int) < (n : Int) := by omega
            have b4 : (k : Int) + (j : Int) < (s.size : Int) := by omega
            have b5 : (0 : Int) ≤ (k : Int) + (j : Int) := by omega
            have hs2 : wrap64 ((k : Int) + (j : Int)) = (k : Int) + (j : Int) := w64_id _ (by omega) (by omega)
            have hcl : ((sb s).drop (k + j)).take (n - j) = (s[k + j]'hkj) :: ((sb s).drop (k + (j + 1))).take (n - (j + 1)) := by
              rw [List.drop_eq_getElem_cons (by rw [sb_length]; exact hkj), show n - j = n - (j + 1) + 1 by omega, List.take_succ_cons]
              rfl
            rw [hcl, contD] at hct
            have hd8 := (s[k + j]'hkj).toNat_lt
            have hw2 : wrap64 (((s[k + j]'hkj).toNat : Nat) : Int) = (((s[k + j]'hkj).toNat : Nat) : Int) := w64_id _ (by omega) (by omega)
            by_cases hin : lo' ≤ (s[k + j]'hkj).toNat ∧ (s[k + j]'hkj).toNat ≤ hi'
            · rw [decide_eq_true hin, Bool.true_and] at hct
              have i1 : ¬ (((s[k + j]'hkj).toNat : Nat) : Int) < (lo' : Int) := by omega
              have i2 : ¬ (hi' : Int) < (((s[k + j]'hkj).toNat : Nat) : Int) := by omega
              have HCT := Lib.hid hct
              clear hct hcl hin
              go_wp2_with fail
              go_round
              case rel => exact ⟨j + 1, 128, 191, by omega, by omega, rfl, rfl, by go_num, HCT.out⟩
              case measure => simp [intOf]; omega
            · rw [decide_eq_false hin, Bool.false_and] at hct
              obtain rfl : R = false := by rw [HRE.out, hct]; rfl
              have hor : (((s[k + j]'hkj).toNat : Nat) : Int) < (lo' : Int) ∨ (¬ (((s[k + j]'hkj).toNat : Nat) : Int) < (lo' : Int) ∧ (hi' : Int) < (((s[k + j]'hkj).toNat : Nat) : Int)) := by omega
              clear hct hcl hin
              rcases hor with i1 | ⟨i1, i2⟩
              all_goals
                go_wp2_with fail
                go_ret
                exact ⟨rfl, rfl⟩
          · have b3 : ¬ (j : Int) < (n : Int) := by omega
            rw [show n - j = 0 by omega, List.take_zero] at hct
            have hR2 : R = utf8D f ((sb s).drop (k + n)) := by rw [HRE.out, hct]; rfl
            have HR2 := Lib.hid hR2
            clear hct hR2
            go_wp2_with fail
            go_round
            case rel => exact ⟨k + n, f, by omega, by go_num, by omega, HR2.out⟩
            case measure => simp [intOf]; omega
    · have b1 : ¬ (k : Int) < (s.size : Int) := by omega
      have : R = true := by rw [hRk, List.drop_of_length_le (by rw [sb_length]; omega)]; cases f <;> rfl
      subst this
      go_wp2_with fail
      go_ret
      exact ⟨rfl, rfl⟩

end Go.Proofs.YtpmafabphlejeaaGreat
/-
  The contract of the document's own keys.
  Conditions: none but sizes.
-/
namespace Go.Proofs.YtpmafabphlejeaaGreat
open Go.RowKit
set_option linter.unusedVariables false
set_option linter.unusedSimpArgs false

/-- May these be a map's keys? -/
def keyOK (l : List ByteArray) (i : Nat) : Prop := ∀ h : i < l.length, 1 ≤ l[i].size ∧ l[i].size ≤ 255 ∧ utf8D l[i].size (sb l[i]) = true ∧ ∀ q (h' : q < l.length), q < i → l[q] ≠ l[i]
def keysOK (l : List ByteArray) : Prop := ∀ i, keyOK l i

/-- What keys answers. -/
def KeysSaid (l : List ByteArray) (w : World) (e : Ending) (w' : World) : Prop := ∃ r : Bool, e = .returned (.bool r) ∧ (r = true ↔ keysOK l) ∧ ∃ q, w' = w.drewN q
theorem keys_said {l : List ByteArray} {w w' : World} {e : Ending} (r : Bool) (h1 : e = .returned (.bool r)) (h2 : r = true ↔ keysOK l) (q : Nat) (h3 : w' = w.drewN q) : KeysSaid l w e w' := ⟨r, h1, h2, q, h3⟩

set_option maxRecDepth 100000 in
set_option maxHeartbeats 8000000 in
theorem qkeys_any (v : Value) (d : Nat) (l : List ByteArray) (w : World) (hv : ShowsG strC w d v l) (hn : l.length ≤ 8796093022208) (hz : ∀ x ∈ l, x.size ≤ 140737488351232) :
    Calls Tryz.prog 146 #[v] w fun e w' => KeysSaid l w e w' := by
  obtain ⟨A, c, rfl⟩ := str_form hv
  go_enter Tryz.func146, Tryz.ntmps146
  go_wp2_with fail
  go_loopw [3, 4] (fun x _ wr => ∃ i q : Nat, i ≤ l.length ∧ x = .int .i64 i ∧ wr = w.drewN q ∧ ∀ p, p < i → keyOK l p) (fun x _ _ => l.length - (intOf x).toNat)
  case atStart => exact ⟨0, 0, by omega, rfl, rfl, fun p h => absurd h (by omega)⟩
  case round =>
    obtain ⟨i, q, hi, rfl, rfl, hok⟩ := hrel
    by_cases hlt : i < l.length
    · obtain ⟨o, c2, e, e0⟩ := str_cell hv i hlt
      cases e
      have b1 : (i : Int) < (l.length : Int) := by omega
      have hzi := hz _ (List.getElem_mem hlt)
      have hU := Lib.hid (fun w => qutf8_any (l[i]'hlt) w hzi)
      have hno : ¬ (1 ≤ l[i].size ∧ l[i].size ≤ 255 ∧ utf8D l[i].size (sb l[i]) = true) → ¬ keysOK l := fun h hk => h ⟨(hk i hlt).1, (hk i hlt).2.1, (hk i hlt).2.2.1⟩
      by_cases h1 : l[i].size < 1
      · have t1 : ((l[i].size : Nat) : Int) < 1 := by omega
        have HN := Lib.hid (hno (by omega))
        generalize l[i] = s at *
        clear hno hok
        go_wp2_with fail
        go_ret
        exact keys_said false rfl (by simpa using HN.out) q rfl
      by_cases h2 : 255 < l[i].size
      · have t1 : ¬ ((l[i].size : Nat) : Int) < 1 := by omega
        have t2 : 255 < ((l[i].size : Nat) : Int) := by omega
        have HN := Lib.hid (hno (by omega))
        generalize l[i] = s at *
        clear hno hok
        go_wp2_with fail
        go_ret
        exact keys_said false rfl (by simpa using HN.out) q rfl
      have t1 : ¬ ((l[i].size : Nat) : Int) < 1 := by omega
      have t2 : ¬ 255 < ((l[i].size : Nat) : Int) := by omega
      cases hu : utf8D l[i].size (sb l[i]) with
      | false =>
        rw [hu] at hU
        have HN := Lib.hid (hno (by rw [hu]; simp))
        generalize l[i] = s at *
        clear hno hok hu
        go_wp2_with fail
        refine (hU.out _).mono ?_
        rintro e w' ⟨rfl, rfl⟩
        go_wp2_with fail
        go_ret
        exact keys_said false rfl (by simpa using HN.out) q rfl
      | true =>
        rw [hu] at hU
        have HK : Hid ((∀ p (h' : p < l.length), p < i → l[p] ≠ l[i]) → ∀ p, p < i + 1 → keyOK l p) := by
          show (∀ p (h' : p < l.length), p < i → l[p] ≠ l[i]) → ∀ p, p < i + 1 → keyOK l p
          intro hd p hp
          by_cases hp2 : p < i
          · exact hok p hp2
          · obtain rfl : p = i := by omega
            exact fun _ => ⟨by omega, by omega, hu, hd⟩
        have HD : Hid (∀ p (h' : p < l.length), p < i → l[p] = l[i] → ¬ keysOK l) := by
          show ∀ p (h' : p < l.length), p < i → l[p] = l[i] → ¬ keysOK l
          intro p hp hpi he hk
          exact (hk i hlt).2.2.2 p hp hpi he
        obtain ⟨s, hs⟩ : ∃ s, s = l[i] := ⟨_, rfl⟩
        have SC := Lib.hid (fun p (hp : p < l.length) => str_cell hv p hp)
        rw [← hs] at hU e0 t1 t2 HK HD
        clear hno hok hu h1 h2 hs hzi
        go_wp2_with fail
        refine (hU.out _).mono ?_
        rintro e w' ⟨rfl, rfl⟩
        go_wp2_with fail
        go_loopw [4] (fun y wr => ∃ p q : Nat, p ≤ i ∧ y = .int .i64 p ∧ wr = w.drewN q ∧ ∀ p' (h' : p' < l.length), p' < p → l[p'] ≠ s) (fun y _ => i - (intOf y).toNat)
        case atStart => exact ⟨0, q, by omega, rfl, rfl, fun p' _ h => absurd h (by omega)⟩
        case round =>
          obtain ⟨p, q, hp, rfl, rfl, hne⟩ := hrel
          by_cases hlt2 : p < i
          · have hpl : p < l.length := by omega
            obtain ⟨o', c3, e, e1⟩ := SC.out p hpl
            cases e
            have b2 : (p : Int) < (l.length : Int) := by omega
            have b3 : (p : Int) < (i : Int) := by omega
            by_cases heq : l[p] = s
            · have hd : ((l[p]'hpl).toList == s.toList) = true := by rw [heq]; simp
              have HN := Lib.hid (HD.out p hpl hlt2 heq)
              generalize l[p] = s' at *
              clear hne heq
              go_wp2_with fail
              go_quiet (fail)
              go_wp2_with fail
              go_ret
              exact keys_said false rfl (by simpa using HN.out) (q + nq) (World.drewN_drewN _ _ _)
            · have hd := toListNe heq
              have HNE : Hid (∀ p' (h' : p' < l.length), p' < p + 1 → l[p'] ≠ s) := by
                show ∀ p' (h' : p' < l.length), p' < p + 1 → l[p'] ≠ s
                intro p' hp' hpp
                by_cases hpp2 : p' < p
                · exact hne p' hp' hpp2
                · obtain rfl : p' = p := by omega
                  exact heq
              generalize l[p] = s' at *
              clear hne heq
              go_wp2_with fail
              go_quiet (fail)
              go_wp2_with fail
              go_roundw
              case rel => exact ⟨p + 1, _, by omega, by go_num, rfl, HNE.out⟩
              case measure => simp [intOf]; omega
          · have b3 : ¬ (p : Int) < (i : Int) := by omega
            have HF := Lib.hid (HK.out (fun p' h' hp' => hne p' h' (by omega)))
            clear hne
            go_wp2_with fail
            go_roundw
            case rel => exact ⟨i + 1, q, by omega, by go_num, rfl, HF.out⟩
            case measure => simp [intOf]; omega
    · have b1 : ¬ (i : Int) < (l.length : Int) := by omega
      have HF : Hid (keysOK l) := by
        show keysOK l
        intro p h
        exact hok p (by omega) h
      clear hok
      go_wp2_with fail
      go_ret
      exact keys_said true rfl (by simpa using HF.out) q rfl

end Go.Proofs.YtpmafabphlejeaaGreat
