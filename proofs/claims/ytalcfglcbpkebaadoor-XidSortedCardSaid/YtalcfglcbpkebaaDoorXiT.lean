/-
  Plain facts: which texts are names' texts, and that reading one tells the name.
  Conditions: none. Nothing here speaks of the program's runs.
-/
import Derived.Test.YtalcfglcbpkebaaDoorXiM
namespace Go.Proofs.YtalcfglcbpkebaaDoor
open Go.RowKit
set_option linter.unusedVariables false
set_option linter.unusedSimpArgs false

theorem digD_lt : ∀ n : Nat, ∀ c ∈ digD n, 48 ≤ c.toNat ∧ c.toNat ≤ 57 := by
  intro n
  induction n using Nat.strongRecOn with
  | ind n ih =>
    intro c hc
    by_cases h : n < 10
    · rw [digD_small h] at hc
      simp at hc
      subst hc
      simp
      omega
    · rw [digD_step (by omega), List.mem_append] at hc
      rcases hc with hc | hc
      · exact ih (n / 10) (by omega) c hc
      · simp at hc
        subst hc
        simp
        omega
theorem toNat_ofNat8 {n : Nat} (h : n < 256) : (UInt8.ofNat n).toNat = n := by simp; omega
theorem ofNat_toNat8 (c : UInt8) : UInt8.ofNat c.toNat = c := by simp

theorem foldR_dig (n : Nat) (hn : n < 4294967296) : ∃ k, 0 < k ∧ foldR st0 (digD n) = some ⟨0, k, n, 0, [], []⟩ := by
  induction n using Nat.strongRecOn with
  | ind n ih =>
    by_cases h : n < 10
    · refine ⟨1, by omega, ?_⟩
      rw [digD_small h]
      simp only [foldR, toNat_ofNat8 (show 48 + n < 256 by omega)]
      have : stepR st0 (48 + n) = some ⟨0, 1, n, 0, [], []⟩ := by
        unfold stepR st0
        rw [if_neg (by omega), if_pos rfl, if_neg (by simp; omega), if_pos (by simp; omega)]
        simp
      rw [this]
      rfl
    · obtain ⟨k, hk, hf⟩ := ih (n / 10) (by omega) (by omega)
      refine ⟨k + 1, by omega, ?_⟩
      rw [digD_step (by omega), foldR_snoc, hf]
      show stepR ⟨0, k, n / 10, 0, [], []⟩ (UInt8.ofNat (48 + n % 10)).toNat = _
      rw [toNat_ofNat8 (by omega)]
      unfold stepR
      rw [if_neg (by omega), if_pos rfl, if_neg (by simp; omega), if_pos (by simp; omega)]
      simp
      omega

theorem numD_signD (k : Nat) (h : k < 16) : numD (UInt8.ofNat (signD k)).toNat = k := by
  rw [toNat_ofNat8 (signD_lt k h), numD_sign k h]
theorem signD_ne (k : Nat) (h : k < 16) : (UInt8.ofNat (signD k)).toNat ≠ 46 := by
  rw [toNat_ofNat8 (signD_lt k h)]; unfold signD; split <;> omega
theorem hexD_cons (c : UInt8) (l : List UInt8) : hexD (c :: l) = UInt8.ofNat (signD (c.toNat / 16)) :: UInt8.ofNat (signD (c.toNat % 16)) :: hexD l := rfl

theorem step_first {t : RSt} (k : Nat) (hk : k < 16) (hp : t.p ≠ 0) (hs : t.s % 2 = 0) : stepR t (UInt8.ofNat (signD k)).toNat = some { t with s := t.s + 1, h := k } := by
  unfold stepR
  rw [if_neg (signD_ne k hk), if_neg hp, if_neg (by rw [numD_signD k hk]; omega), if_pos (by unfold halfB; simp; omega), numD_signD k hk]
theorem step_second1 {t : RSt} (k : Nat) (hk : k < 16) (hp : t.p = 1) (hs : t.s % 2 = 1) (hg : t.g.length + 1 ≤ 64) : stepR t (UInt8.ofNat (signD k)).toNat = some { t with s := t.s + 1, g := t.g ++ [UInt8.ofNat (t.h * 16 + k)] } := by
  unfold stepR
  rw [if_neg (signD_ne k hk), if_neg (by omega), if_neg (by rw [numD_signD k hk]; omega), if_neg (by unfold halfB; simp; omega), if_pos hp, if_pos hg, numD_signD k hk]
theorem step_second2 {t : RSt} (k : Nat) (hk : k < 16) (hp : t.p = 2) (hs : t.s % 2 = 1) (hg : t.b.length + 1 ≤ 64) : stepR t (UInt8.ofNat (signD k)).toNat = some { t with s := t.s + 1, b := t.b ++ [UInt8.ofNat (t.h * 16 + k)] } := by
  unfold stepR
  rw [if_neg (signD_ne k hk), if_neg (by omega), if_neg (by rw [numD_signD k hk]; omega), if_neg (by unfold halfB; simp; omega), if_neg (by omega), if_pos hg, numD_signD k hk]
theorem byte_parts (c : UInt8) : UInt8.ofNat (c.toNat / 16 * 16 + c.toNat % 16) = c := by
  rw [show c.toNat / 16 * 16 + c.toNat % 16 = c.toNat by omega]; exact ofNat_toNat8 c

theorem foldR_hex1 : ∀ (l : List UInt8) (t : RSt), t.p = 1 → t.s % 2 = 0 → t.g.length + l.length ≤ 64 → ∃ h, foldR t (hexD l) = some { t with s := t.s + 2 * l.length, h := h, g := t.g ++ l }
  | [], t, _, _, _ => ⟨t.h, by simp [hexD, foldR]⟩
  | c :: l, t, hp, hs, hg => by
    have hc := c.toNat_lt
    simp only [List.length_cons] at hg
    obtain ⟨h, hf⟩ := foldR_hex1 l { t with s := t.s + 1 + 1, h := c.toNat / 16, g := t.g ++ [c] } hp (by simp; omega) (by simp; omega)
    refine ⟨h, ?_⟩
    rw [hexD_cons]
    simp only [foldR]
    rw [step_first (t := t) (c.toNat / 16) (by omega) (by omega) hs]
    simp only [Option.bind_some]
    rw [step_second1 (t := { t with s := t.s + 1, h := c.toNat / 16 }) (c.toNat % 16) (by omega) hp (by simp; omega) (by simp; omega)]
    simp only [Option.bind_some, byte_parts]
    rw [hf]
    simp
    omega
theorem foldR_hex2 : ∀ (l : List UInt8) (t : RSt), t.p = 2 → t.s % 2 = 0 → t.b.length + l.length ≤ 64 → ∃ h, foldR t (hexD l) = some { t with s := t.s + 2 * l.length, h := h, b := t.b ++ l }
  | [], t, _, _, _ => ⟨t.h, by simp [hexD, foldR]⟩
  | c :: l, t, hp, hs, hg => by
    have hc := c.toNat_lt
    simp only [List.length_cons] at hg
    obtain ⟨h, hf⟩ := foldR_hex2 l { t with s := t.s + 1 + 1, h := c.toNat / 16, b := t.b ++ [c] } hp (by simp; omega) (by simp; omega)
    refine ⟨h, ?_⟩
    rw [hexD_cons]
    simp only [foldR]
    rw [step_first (t := t) (c.toNat / 16) (by omega) (by omega) hs]
    simp only [Option.bind_some]
    rw [step_second2 (t := { t with s := t.s + 1, h := c.toNat / 16 }) (c.toNat % 16) (by omega) hp (by simp; omega) (by simp; omega)]
    simp only [Option.bind_some, byte_parts]
    rw [hf]
    simp
    omega

theorem step_stop {t : RSt} (hs : t.s ≠ 0) (hh : halfB t.p t.s = false) : stepR t (46 : UInt8).toNat = some { t with p := t.p + 1, s := 0 } := by
  rw [show (46 : UInt8).toNat = 46 from rfl]
  unfold stepR
  rw [if_pos rfl, if_neg (by simp [hs, hh])]

/-- The text of a name is read as the name. -/
theorem parsed_text (f : Nat) (g h : ByteArray) (hm : mayX g h) (hf : f < 4294967296) : parsedD (textX f g h) = (f, sb g, sb h) := by
  obtain ⟨h1, h2, h3⟩ := hm
  obtain ⟨k, hk, hd⟩ := foldR_dig f hf
  obtain ⟨x1, hx1⟩ := foldR_hex1 (sb g) ⟨1, 0, f, 0, [], []⟩ rfl rfl (by simp [sb_length]; omega)
  obtain ⟨x2, hx2⟩ := foldR_hex2 (sb h) ⟨2, 0, f, x1, sb g, []⟩ rfl rfl (by simp [sb_length]; omega)
  have e : foldR st0 (textX f g h) = some ⟨2, 2 * (sb h).length, f, x2, sb g, sb h⟩ := by
    unfold textX
    rw [foldR_append, foldR_snoc, foldR_append, foldR_snoc, hd]
    simp only [Option.bind_some]
    rw [step_stop (by simp; omega) (by simp [halfB])]
    simp only [Option.bind_some]
    rw [hx1]
    simp only [Option.bind_some]
    rw [step_stop (by simp [sb_length]; omega) (by simp [halfB])]
    simp only [Option.bind_some, List.nil_append]
    rw [hx2]
    simp
  unfold parsedD
  rw [e]
  simp [halfB]

theorem sign_num (c : UInt8) (h : numD c.toNat < 16) : UInt8.ofNat (signD (numD c.toNat)) = c := by
  have : signD (numD c.toNat) = c.toNat := by
    unfold numD at h ⊢
    unfold signD
    split
    · rw [if_pos (by omega)]; omega
    · rename_i h1
      rw [if_neg h1] at h
      split
      · rw [if_neg (by omega)]; omega
      · rename_i h2
        rw [if_neg h2] at h
        omega
  rw [this]; exact ofNat_toNat8 c
theorem hexD_one (l : List UInt8) (a b : Nat) (ha : a < 16) (hb : b < 16) : hexD (l ++ [UInt8.ofNat (a * 16 + b)]) = hexD l ++ [UInt8.ofNat (signD a)] ++ [UInt8.ofNat (signD b)] := by
  rw [hexD_snoc, toNat_ofNat8 (by omega), show (a * 16 + b) / 16 = a by omega, show (a * 16 + b) % 16 = b by omega]
  simp

/-- What was read so far, as text. -/
def Inv (t : RSt) (l : List UInt8) : Prop :=
  (t.p = 0 ∧ t.g = [] ∧ t.b = [] ∧ ((t.s = 0 ∧ t.f = 0 ∧ l = []) ∨ (0 < t.s ∧ l = digD t.f))) ∨
  (t.p = 1 ∧ t.b = [] ∧ ((t.s = 2 * t.g.length ∧ l = digD t.f ++ [46] ++ hexD t.g) ∨ (t.s = 2 * t.g.length + 1 ∧ l = digD t.f ++ [46] ++ hexD t.g ++ [UInt8.ofNat (signD t.h)]))) ∨
  (t.p = 2 ∧ t.g ≠ [] ∧ ((t.s = 2 * t.b.length ∧ l = digD t.f ++ [46] ++ hexD t.g ++ [46] ++ hexD t.b) ∨ (t.s = 2 * t.b.length + 1 ∧ l = digD t.f ++ [46] ++ hexD t.g ++ [46] ++ hexD t.b ++ [UInt8.ofNat (signD t.h)]))) ∨
  3 ≤ t.p

theorem Inv.step {t t' : RSt} {l : List UInt8} {c : UInt8} (hi : Inv t l) (ho : OKR t) (h : stepR t c.toNat = some t') : Inv t' (l ++ [c]) := by
  have hh16 := ho.h
  unfold stepR at h
  by_cases h46 : c.toNat = 46
  · have hc : c = 46 := UInt8.toNat_inj.1 h46
    rw [if_pos h46] at h
    split at h
    · cases h
    · rename_i hn
      simp only [not_or, halfB, Bool.not_eq_true, decide_eq_false_iff_not] at hn
      obtain ⟨hn1, hn2⟩ := hn
      simp only [Option.some.injEq] at h
      subst h
      subst hc
      rcases hi with ⟨h0, h1, h2, h3⟩ | ⟨h0, h2, h3⟩ | ⟨h0, h1, h3⟩ | h0
      · rcases h3 with ⟨h3, _⟩ | ⟨h3, h4⟩
        · exact absurd h3 hn1
        · exact .inr (.inl ⟨by simp [h0], h2, .inl ⟨by simp [h1], by simp [h4, h1, hexD]⟩⟩)
      · rcases h3 with ⟨h3, h4⟩ | ⟨h3, h4⟩
        · refine .inr (.inr (.inl ⟨by simp [h0], fun e => hn1 (by rw [h3, e]; rfl), .inl ⟨by simp [h2], by simp [h4, h2, hexD]⟩⟩))
        · exact absurd ⟨by omega, by omega⟩ hn2
      · exact .inr (.inr (.inr (by simp; omega)))
      · exact .inr (.inr (.inr (by simp; omega)))
  · rw [if_neg h46] at h
    by_cases h0 : t.p = 0
    · rw [if_pos h0] at h
      split at h
      · cases h
      · rename_i hn
        simp only [not_or, Decidable.not_not, not_and] at hn
        split at h
        · rename_i hle
          simp only [Option.some.injEq] at h
          subst h
          rcases hi with ⟨_, h1, h2, h3⟩ | ⟨h0', _⟩ | ⟨h0', _⟩ | h0'
          · refine .inl ⟨h0, h1, h2, .inr ⟨by simp, ?_⟩⟩
            show l ++ [c] = digD (t.f * 10 + (c.toNat - 48))
            have hcd : UInt8.ofNat (48 + (c.toNat - 48)) = c := by rw [show 48 + (c.toNat - 48) = c.toNat by omega]; exact ofNat_toNat8 c
            rcases h3 with ⟨h3, h4, h5⟩ | ⟨h3, h4⟩
            · rw [h5, h4, digD_small (by omega), show 48 + (0 * 10 + (c.toNat - 48)) = 48 + (c.toNat - 48) by omega, hcd]
              rfl
            · have hf0 : t.f ≠ 0 := hn.2 h3
              rw [digD_step (by omega), show (t.f * 10 + (c.toNat - 48)) / 10 = t.f by omega, show 48 + (t.f * 10 + (c.toNat - 48)) % 10 = 48 + (c.toNat - 48) by omega, hcd, h4]
          · omega
          · omega
          · omega
        · cases h
    · rw [if_neg h0] at h
      by_cases hx : numD c.toNat < 16
      · rw [if_neg (by simpa using hx)] at h
        by_cases hh : halfB t.p (t.s + 1) = true
        · rw [if_pos hh] at h
          simp only [halfB, decide_eq_true_eq] at hh
          simp only [Option.some.injEq] at h
          subst h
          rcases hi with ⟨h0', _⟩ | ⟨h0', h2, h3⟩ | ⟨h0', h1, h3⟩ | h0'
          · omega
          · rcases h3 with ⟨h3, h4⟩ | ⟨h3, h4⟩
            · exact .inr (.inl ⟨h0', h2, .inr ⟨by simp [h3], by simp [h4, sign_num c hx]⟩⟩)
            · omega
          · rcases h3 with ⟨h3, h4⟩ | ⟨h3, h4⟩
            · exact .inr (.inr (.inl ⟨h0', h1, .inr ⟨by simp [h3], by simp [h4, sign_num c hx]⟩⟩))
            · omega
          · exact .inr (.inr (.inr h0'))
        · rw [if_neg hh] at h
          simp only [halfB, decide_eq_true_eq, not_and] at hh
          have hodd : t.s % 2 = 1 := by have := hh h0; omega
          by_cases h1p : t.p = 1
          · rw [if_pos h1p] at h
            split at h
            · simp only [Option.some.injEq] at h
              subst h
              rcases hi with ⟨h0', _⟩ | ⟨h0', h2, h3⟩ | ⟨h0', h1, h3⟩ | h0'
              · omega
              · rcases h3 with ⟨h3, h4⟩ | ⟨h3, h4⟩
                · omega
                · refine .inr (.inl ⟨h0', h2, .inl ⟨by simp; omega, ?_⟩⟩)
                  show l ++ [c] = digD t.f ++ [46] ++ hexD (t.g ++ [UInt8.ofNat (t.h * 16 + numD c.toNat)])
                  rw [hexD_one _ _ _ hh16 hx, sign_num c hx, h4]
                  simp
              · omega
              · omega
            · cases h
          · rw [if_neg h1p] at h
            split at h
            · simp only [Option.some.injEq] at h
              subst h
              rcases hi with ⟨h0', _⟩ | ⟨h0', h2, h3⟩ | ⟨h0', h1, h3⟩ | h0'
              · omega
              · omega
              · rcases h3 with ⟨h3, h4⟩ | ⟨h3, h4⟩
                · omega
                · refine .inr (.inr (.inl ⟨h0', h1, .inl ⟨by simp; omega, ?_⟩⟩))
                  show l ++ [c] = digD t.f ++ [46] ++ hexD t.g ++ [46] ++ hexD (t.b ++ [UInt8.ofNat (t.h * 16 + numD c.toNat)])
                  rw [hexD_one _ _ _ hh16 hx, sign_num c hx, h4]
                  simp
              · exact .inr (.inr (.inr h0'))
            · cases h
      · rw [if_pos hx] at h
        cases h

theorem inv_fold : ∀ (l : List UInt8) (t t' : RSt) (p : List UInt8), Inv t p → OKR t → foldR t l = some t' → Inv t' (p ++ l) ∧ OKR t'
  | [], t, t', p, hi, ho, h => by simp only [foldR, Option.some.injEq] at h; subst h; simpa using ⟨hi, ho⟩
  | c :: l, t, t', p, hi, ho, h => by
    simp only [foldR] at h
    cases hs : stepR t c.toNat with
    | none => rw [hs] at h; cases h
    | some u =>
      rw [hs] at h
      have := inv_fold l u t' (p ++ [c]) (hi.step ho hs) (ho.step hs) h
      simpa using this

/-- What is read as a name is the name's text. -/
theorem parsed_sound (l : List UInt8) (h : parsedD l ≠ (0, [], [])) : ∃ f g h, mayX g h ∧ f < 4294967296 ∧ l = textX f g h ∧ parsedD l = (f, sb g, sb h) := by
  unfold parsedD at h ⊢
  cases hf : foldR st0 l with
  | none => rw [hf] at h; exact absurd rfl h
  | some t =>
    rw [hf] at h
    simp only at h ⊢
    by_cases hc : t.p = 2 ∧ halfB t.p t.s = false
    · obtain ⟨hi, ho⟩ := inv_fold l st0 t [] (.inl ⟨rfl, rfl, rfl, .inl ⟨rfl, rfl, rfl⟩⟩) ok0 hf
      rw [if_pos hc]
      refine ⟨t.f, str8 t.g, str8 t.b, ?_, by have := ho.f; omega, ?_, rfl⟩
      · rcases hi with ⟨h0, _⟩ | ⟨h0, _⟩ | ⟨h0, h1, _⟩ | h0
        · omega
        · omega
        · have := List.length_pos_iff.2 h1
          exact ⟨by rw [str8_size]; omega, by rw [str8_size]; exact ho.g, by rw [str8_size]; exact ho.b⟩
        · omega
      · rcases hi with ⟨h0, _⟩ | ⟨h0, _⟩ | ⟨h0, h1, h3⟩ | h0
        · omega
        · omega
        · rcases h3 with ⟨h3, h4⟩ | ⟨h3, h4⟩
          · simpa [textX, sb_str8] using h4
          · obtain ⟨_, hh⟩ := hc
            simp only [halfB, decide_eq_false_iff_not, not_and] at hh
            have := hh (by omega)
            omega
        · omega
    · rw [if_neg hc] at h
      exact absurd rfl h

/-- Texts tell names apart. -/
theorem textX_inj {f1 f2 : Nat} {g1 h1 g2 h2 : ByteArray} (hm1 : mayX g1 h1) (hm2 : mayX g2 h2) (hf1 : f1 < 4294967296) (hf2 : f2 < 4294967296) (h : textX f1 g1 h1 = textX f2 g2 h2) : f1 = f2 ∧ g1 = g2 ∧ h1 = h2 := by
  have e1 := parsed_text f1 g1 h1 hm1 hf1
  rw [h, parsed_text f2 g2 h2 hm2 hf2] at e1
  simp only [Prod.mk.injEq] at e1
  exact ⟨e1.1.symm, (sb_inj.1 e1.2.1).symm, (sb_inj.1 e1.2.2).symm⟩
theorem parsed_no (l : List UInt8) (hn : ∀ f g h, mayX g h → f < 4294967296 → l ≠ textX f g h) : parsedD l = (0, [], []) := by
  by_cases h : parsedD l = (0, [], [])
  · exact h
  · obtain ⟨f, g, hh, hm, hf, hl, _⟩ := parsed_sound l h
    exact absurd hl (hn f g hh hm hf)
theorem parsed_ne {g h : ByteArray} {f : Nat} (hm : mayX g h) : (f, sb g, sb h) ≠ ((0 : Nat), ([] : List UInt8), ([] : List UInt8)) := fun e => by
  simp only [Prod.mk.injEq] at e
  have := sb_length g
  rw [e.2.1] at this
  have := hm.1
  simp at *
  omega

end Go.Proofs.YtalcfglcbpkebaaDoor
