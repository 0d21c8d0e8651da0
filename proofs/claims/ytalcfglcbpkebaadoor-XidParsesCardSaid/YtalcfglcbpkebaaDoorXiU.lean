/-
  Plain facts: the document's Parse and the program's tell the same.
  Conditions: none. Nothing here speaks of the program's runs.
-/
import Derived.Test.YtalcfglcbpkebaaDoorXiS
namespace Go.Proofs.YtalcfglcbpkebaaDoor
open Go.RowKit
set_option linter.unusedVariables false
set_option linter.unusedSimpArgs false

theorem sc1_dig (f : Nat) (hf : f < 4294967296) : ∀ (k : Nat) (rest : List UInt8), sc1 0 k (digD f ++ rest) = sc1 f (k + (digD f).length) rest := by
  induction f using Nat.strongRecOn with
  | ind f ih =>
    intro k rest
    by_cases h : f < 10
    · rw [digD_small h]
      show sc1 0 k (UInt8.ofNat (48 + f) :: rest) = _
      rw [sc1, toNat_ofNat8 (by omega), if_pos (by omega)]
      simp
    · rw [digD_step (by omega), List.append_assoc, ih (f / 10) (by omega) (by omega)]
      show sc1 (f / 10) (k + (digD (f / 10)).length) (UInt8.ofNat (48 + f % 10) :: rest) = _
      rw [sc1, toNat_ofNat8 (by omega), if_pos (by omega), List.length_append, List.length_singleton, show 10 * (f / 10) + (48 + f % 10 - 48) = f by omega, show k + (digD (f / 10)).length + 1 = k + ((digD (f / 10)).length + 1) by omega]
theorem sc2_skip : ∀ (a : List UInt8) (k : Nat) (r : List UInt8), (∀ c ∈ a, c.toNat ≠ 46) → sc2 k (a ++ 46 :: r) = k + a.length
  | [], k, r, _ => by simp [sc2]
  | c :: a, k, r, h => by
    rw [List.cons_append, sc2, if_pos (h c (by simp)), sc2_skip a (k + 1) r (fun d hd => h d (by simp [hd]))]
    simp
    omega
theorem unhexD_hexD : ∀ l : List UInt8, unhexD (hexD l) = some l
  | [] => rfl
  | c :: l => by
    have hc := c.toNat_lt
    rw [hexD_cons, unhexD, numD_signD _ (by omega), numD_signD _ (by omega), if_neg (by omega), unhexD_hexD l]
    simp only [Option.map_some]
    rw [show 16 * (c.toNat / 16) + c.toNat % 16 = c.toNat by omega, ofNat_toNat8]
theorem hexD_ne (l : List UInt8) : ∀ c ∈ hexD l, c.toNat ≠ 46 := by
  induction l with
  | nil => intro c hc; simp [hexD] at hc
  | cons d l ih =>
    intro c hc
    have hd := d.toNat_lt
    rw [hexD_cons] at hc
    rcases List.mem_cons.1 hc with rfl | hc
    · exact signD_ne _ (by omega)
    · rcases List.mem_cons.1 hc with rfl | hc
      · exact signD_ne _ (by omega)
      · exact ih c hc

theorem qparse_text (f : Nat) (g h : ByteArray) (hm : mayX g h) (hf : f < 4294967296) : qparseD (textX f g h) = (f, sb g, sb h) := by
  have e0 : textX f g h = digD f ++ (46 :: (hexD (sb g) ++ 46 :: hexD (sb h))) := by unfold textX; simp
  have e1 : sc1 0 0 (textX f g h) = (f, (digD f).length) := by
    rw [e0, sc1_dig f hf, sc1, if_neg (fun h => absurd h.1 (by decide))]
    simp
  have e2 : (textX f g h).drop ((digD f).length + 1) = hexD (sb g) ++ 46 :: hexD (sb h) := by
    rw [e0, ← List.drop_drop, List.drop_left]
    rfl
  have e3 : sc2 ((digD f).length + 1) ((textX f g h).drop ((digD f).length + 1)) = (digD f).length + 1 + (hexD (sb g)).length := by
    rw [e2]; exact sc2_skip _ _ _ (hexD_ne _)
  have e4 : (textX f g h).drop ((digD f).length + 1 + (hexD (sb g)).length + 1) = hexD (sb h) := by
    rw [show (digD f).length + 1 + (hexD (sb g)).length + 1 = (digD f).length + 1 + ((hexD (sb g)).length + 1) by omega, ← List.drop_drop, e2, ← List.drop_drop, List.drop_left]
    rfl
  have e5 : (textX f g h).length = (digD f).length + 1 + (hexD (sb g)).length + 1 + (hexD (sb h)).length := by rw [e0]; simp; omega
  unfold qparseD
  simp only [e1]
  rw [e3, e2, e4]
  rw [show (digD f).length + 1 + (hexD (sb g)).length - ((digD f).length + 1) = (hexD (sb g)).length by omega, List.take_left, unhexD_hexD, unhexD_hexD, e5]
  simp only [Option.getD_some, Option.isSome_some, str8_sb]
  rw [if_pos ⟨hf, by omega, trivial, trivial, hm, trivial⟩]

theorem qparse_eq (l : List UInt8) : qparseD l = parsedD l := by
  by_cases h : parsedD l = (0, [], [])
  · rw [h]
    unfold qparseD
    simp only
    split
    · rename_i hc
      obtain ⟨h1, _, _, _, h5, h6⟩ := hc
      have := parsed_text _ _ _ h5 h1
      rw [h6, h] at this
      exact this.symm
    · rfl
  · obtain ⟨f, g, hh, hm, hf, hl, hp⟩ := parsed_sound l h
    rw [hp, hl]
    exact qparse_text f g hh hm hf

end Go.Proofs.YtalcfglcbpkebaaDoor
