/-
  The contract of the document's own keys.
  Conditions: none but sizes.
-/
import Derived.Test.YtnafibnhmhbfiaaV5AZ
import Derived.Test.YtnafibnhmhbfiaaV5FZ
namespace Go.Proofs.Ytnafibnhmhbfiaa
open Go.RowKit
set_option linter.unusedVariables false
set_option linter.unusedSimpArgs false

/-- May these be a map's keys? -/
def keyOK (l : List ByteArray) (i : Nat) : Prop := ∀ h : i < l.length, 1 ≤ l[i].size ∧ l[i].size ≤ 255 ∧ utf8D l[i].size (sb l[i]) = true ∧ ∀ q (h' : q < l.length), q < i → l[q] ≠ l[i]
def keysOK (l : List ByteArray) : Prop := ∀ i, keyOK l i

/-- What keys answers. -/
def KeysSaid (l : List ByteArray) (w : World) (e : Ending) (w' : World) : Prop := ∃ r : Bool, e = .returned (.bool r) ∧ (r = true ↔ keysOK l) ∧ ∃ q, w' = w.drewN q
theorem keys_said {l : List ByteArray} {w w' : World} {e : Ending} (r : Bool) (h1 : e = .returned (.bool r)) (h2 : r = true ↔ keysOK l) (q : Nat) (h3 : w' = w.drewN q) : KeysSaid l w e w' := ⟨r, h1, h2, q, h3⟩

set_option maxRecDepth 100000 in
set_option maxHeartbeats 8000000 in
theorem qkeys_any (v : Value) (d : Nat) (l : List ByteArray) (w : World) (hv : ShowsG strC w d v l) (hn : l.length ≤ 8796093022208) (hz : ∀ x ∈ l, x.size ≤ 140737488351232) :
    Calls Try.prog 92 #[v] w fun e w' => KeysSaid l w e w' := by
  obtain ⟨A, c, rfl⟩ := str_form hv
  go_enter Try.func92, Try.ntmps92
  go_wp2_with fail
  go_loopw [3, 4] (fun x _ wr => ∃ i q : Nat, i ≤ l.length ∧ x = .int .i64 i ∧ wr = w.drewN q ∧ ∀ p, p < i → keyOK l p) (fun x _ _ => l.length - (intOf x).toNat)
  case atStart => exact ⟨0, 0, by omega, rfl, rfl, fun p h => absurd h (by omega)⟩
  case round =>
    obtain ⟨i, q, hi, rfl, rfl, hok⟩ := hrel
    by_cases hlt : i < l.length
    · obtain ⟨o, c2, e, e0⟩ := str_cell hv i hlt
      cases e
      have b1 : (i : Int) < (l.length : Int) := by omega
      have hzi := hz _ (List.getElem_mem hlt)
      have hU := Lib.hid (fun w => qutf8_any (l[i]'hlt) w hzi)
      have hno : ¬ (1 ≤ l[i].size ∧ l[i].size ≤ 255 ∧ utf8D l[i].size (sb l[i]) = true) → ¬ keysOK l := fun h hk => h ⟨(hk i hlt).1, (hk i hlt).2.1, (hk i hlt).2.2.1⟩
      by_cases h1 : l[i].size < 1
      · have t1 : ((l[i].size : Nat) : Int) < 1 := by omega
        have HN := Lib.hid (hno (by omega))
        generalize l[i] = s at *
        clear hno hok
        go_wp2_with fail
        go_ret
        exact keys_said false rfl (by simpa using HN.out) q rfl
      by_cases h2 : 255 < l[i].size
      · have t1 : ¬ ((l[i].size : Nat) : Int) < 1 := by omega
        have t2 : 255 < ((l[i].size : Nat) : Int) := by omega
        have HN := Lib.hid (hno (by omega))
        generalize l[i] = s at *
        clear hno hok
        go_wp2_with fail
        go_ret
        exact keys_said false rfl (by simpa using HN.out) q rfl
      have t1 : ¬ ((l[i].size : Nat) : Int) < 1 := by omega
      have t2 : ¬ 255 < ((l[i].size : Nat) : Int) := by omega
      cases hu : utf8D l[i].size (sb l[i]) with
      | false =>
        rw [hu] at hU
        have HN := Lib.hid (hno (by rw [hu]; simp))
        generalize l[i] = s at *
        clear hno hok hu
        go_wp2_with fail
        refine (hU.out _).mono ?_
        rintro e w' ⟨rfl, rfl⟩
        go_wp2_with fail
        go_ret
        exact keys_said false rfl (by simpa using HN.out) q rfl
      | true =>
        rw [hu] at hU
        have HK : Hid ((∀ p (h' : p < l.length), p < i → l[p] ≠ l[i]) → ∀ p, p < i + 1 → keyOK l p) := by
          show (∀ p (h' : p < l.length), p < i → l[p] ≠ l[i]) → ∀ p, p < i + 1 → keyOK l p
          intro hd p hp
          by_cases hp2 : p < i
          · exact hok p hp2
          · obtain rfl : p = i := by omega
            exact fun _ => ⟨by omega, by omega, hu, hd⟩
        have HD : Hid (∀ p (h' : p < l.length), p < i → l[p] = l[i] → ¬ keysOK l) := by
          show ∀ p (h' : p < l.length), p < i → l[p] = l[i] → ¬ keysOK l
          intro p hp hpi he hk
          exact (hk i hlt).2.2.2 p hp hpi he
        obtain ⟨s, hs⟩ : ∃ s, s = l[i] := ⟨_, rfl⟩
        have SC := Lib.hid (fun p (hp : p < l.length) => str_cell hv p hp)
        rw [← hs] at hU e0 t1 t2 HK HD
        clear hno hok hu h1 h2 hs hzi
        go_wp2_with fail
        refine (hU.out _).mono ?_
        rintro e w' ⟨rfl, rfl⟩
        go_wp2_with fail
        go_loopw [4] (fun y wr => ∃ p q : Nat, p ≤ i ∧ y = .int .i64 p ∧ wr = w.drewN q ∧ ∀ p' (h' : p' < l.length), p' < p → l[p'] ≠ s) (fun y _ => i - (intOf y).toNat)
        case atStart => exact ⟨0, q, by omega, rfl, rfl, fun p' _ h => absurd h (by omega)⟩
        case round =>
          obtain ⟨p, q, hp, rfl, rfl, hne⟩ := hrel
          by_cases hlt2 : p < i
          · have hpl : p < l.length := by omega
            obtain ⟨o', c3, e, e1⟩ := SC.out p hpl
            cases e
            have b2 : (p : Int) < (l.length : Int) := by omega
            have b3 : (p : Int) < (i : Int) := by omega
            by_cases heq : l[p] = s
            · have hd : ((l[p]'hpl).toList == s.toList) = true := by rw [heq]; simp
              have HN := Lib.hid (HD.out p hpl hlt2 heq)
              generalize l[p] = s' at *
              clear hne heq
              go_wp2_with fail
              go_quiet (fail)
              go_wp2_with fail
              go_ret
              exact keys_said false rfl (by simpa using HN.out) (q + nq) (World.drewN_drewN _ _ _)
            · have hd := toListNe heq
              have HNE : Hid (∀ p' (h' : p' < l.length), p' < p + 1 → l[p'] ≠ s) := by
                show ∀ p' (h' : p' < l.length), p' < p + 1 → l[p'] ≠ s
                intro p' hp' hpp
                by_cases hpp2 : p' < p
                · exact hne p' hp' hpp2
                · obtain rfl : p' = p := by omega
                  exact heq
              generalize l[p] = s' at *
              clear hne heq
              go_wp2_with fail
              go_quiet (fail)
              go_wp2_with fail
              go_roundw
              case rel => exact ⟨p + 1, _, by omega, by go_num, rfl, HNE.out⟩
              case measure => simp [intOf]; omega
          · have b3 : ¬ (p : Int) < (i : Int) := by omega
            have HF := Lib.hid (HK.out (fun p' h' hp' => hne p' h' (by omega)))
            clear hne
            go_wp2_with fail
            go_roundw
            case rel => exact ⟨i + 1, q, by omega, by go_num, rfl, HF.out⟩
            case measure => simp [intOf]; omega
    · have b1 : ¬ (i : Int) < (l.length : Int) := by omega
      have HF : Hid (keysOK l) := by
        show keysOK l
        intro p h
        exact hok p (by omega) h
      clear hok
      go_wp2_with fail
      go_ret
      exact keys_said true rfl (by simpa using HF.out) q rfl

end Go.Proofs.Ytnafibnhmhbfiaa
