/-
  Texts, together: ValR, ValS.
  Conditions: none but sizes.
-/
import Derived.Lib.ValidLaws
import Derived.Test.YtpmafabphlejeaaGreatV5FZ
import Derived.Test.YtpmafabphlejeaaGreatValDZ
import Derived.Deep.LoopGhost
/-
  The document's own test of UTF-8, byte by byte, is the model's.
  Conditions: none.
-/
namespace Go.Proofs.YtpmafabphlejeaaGreat
open Go.RowKit
set_option linter.unusedVariables false
set_option linter.unusedSimpArgs false

theorem utf8_tail (n lo hi : Nat) (hn : n = 2 ∨ n = 3 ∨ n = 4) (r : List UInt8) (c : UInt8) (X : List UInt8 → Bool) :
    (match Lib.checkN (c :: r).length ((c :: r).getD 1 0).toNat ((c :: r).getD 2 0).toNat ((c :: r).getD 3 0).toNat n lo hi with | none => false | some k => X ((c :: r).drop k)) =
    (decide (n ≠ 0 ∧ n ≤ r.length + 1) && contD lo hi (r.take (n - 1)) && X (r.drop (n - 1))) := by
  rcases hn with rfl | rfl | rfl
  · match r with
    | [] => simp [Lib.checkN]
    | x :: r' =>
      by_cases h : lo ≤ x.toNat ∧ x.toNat ≤ hi
      · have h1 : ¬ (r'.length + 1 + 1 < 2 ∨ x.toNat < lo ∨ hi < x.toNat) := by omega
        simp [Lib.checkN, contD, h, h1]
      · have h1 : (r'.length + 1 + 1 < 2 ∨ x.toNat < lo ∨ hi < x.toNat) := by omega
        simp [Lib.checkN, contD, h, h1]
  · match r with
    | [] => simp [Lib.checkN]
    | [x] => simp [Lib.checkN]
    | x :: y :: r' =>
      by_cases h : (lo ≤ x.toNat ∧ x.toNat ≤ hi) ∧ (128 ≤ y.toNat ∧ y.toNat ≤ 191)
      · have h1 : ¬ (r'.length + 1 + 1 + 1 < 3 ∨ x.toNat < lo ∨ hi < x.toNat ∨ y.toNat < 128 ∨ 191 < y.toNat) := by omega
        simp [Lib.checkN, contD, h.1, h.2, h1]
      · have h1 : (r'.length + 1 + 1 + 1 < 3 ∨ x.toNat < lo ∨ hi < x.toNat ∨ y.toNat < 128 ∨ 191 < y.toNat) := by omega
        have h2 : contD lo hi [x, y] = false := by
          simp only [contD, Bool.and_true]
          rw [← Bool.decide_and, decide_eq_false h]
        simp [Lib.checkN, h1, h2]
  · match r with
    | [] => simp [Lib.checkN]
    | [x] => simp [Lib.checkN]
    | [x, y] => simp [Lib.checkN]
    | x :: y :: z :: r' =>
      by_cases h : (lo ≤ x.toNat ∧ x.toNat ≤ hi) ∧ (128 ≤ y.toNat ∧ y.toNat ≤ 191) ∧ (128 ≤ z.toNat ∧ z.toNat ≤ 191)
      · have h1 : ¬ (r'.length + 1 + 1 + 1 + 1 < 4 ∨ x.toNat < lo ∨ hi < x.toNat ∨ y.toNat < 128 ∨ 191 < y.toNat ∨ z.toNat < 128 ∨ 191 < z.toNat) := by omega
        simp [Lib.checkN, contD, h.1, h.2.1, h.2.2, h1]
      · have h1 : (r'.length + 1 + 1 + 1 + 1 < 4 ∨ x.toNat < lo ∨ hi < x.toNat ∨ y.toNat < 128 ∨ 191 < y.toNat ∨ z.toNat < 128 ∨ 191 < z.toNat) := by omega
        have h2 : contD lo hi [x, y, z] = false := by
          simp only [contD, Bool.and_true]
          rw [← Bool.decide_and, ← Bool.decide_and, decide_eq_false h]
        simp [Lib.checkN, h1, h2]

theorem lead_first (c : Nat) (h0 : 128 ≤ c) (h1 : c < 256) :
    ((leadD c).1 = 0 ∧ Lib.firstT c % 8 = 1) ∨ (((leadD c).1 = 2 ∨ (leadD c).1 = 3 ∨ (leadD c).1 = 4) ∧ Lib.firstT c % 8 = (leadD c).1 ∧ Lib.accLo (Lib.firstT c / 16) = (leadD c).2.1 ∧ Lib.accHi (Lib.firstT c / 16) = (leadD c).2.2) := by
  have key : ∀ c : Fin 256, 128 ≤ c.val → ((leadD c.val).1 = 0 ∧ Lib.firstT c.val % 8 = 1) ∨ (((leadD c.val).1 = 2 ∨ (leadD c.val).1 = 3 ∨ (leadD c.val).1 = 4) ∧ Lib.firstT c.val % 8 = (leadD c.val).1 ∧ Lib.accLo (Lib.firstT c.val / 16) = (leadD c.val).2.1 ∧ Lib.accHi (Lib.firstT c.val / 16) = (leadD c.val).2.2) := by decide +kernel
  exact key ⟨c, h1⟩ h0

theorem utf8_valid : ∀ (f : Nat) (l : List UInt8), l.length ≤ f → utf8D f l = Lib.validD l
  | _, [], _ => by cases ‹Nat› <;> rfl
  | 0, c :: r, h => by simp at h
  | f + 1, c :: r, h => by
    have hr : r.length ≤ f := by simpa using h
    by_cases hc : c.toNat < 128
    · have hl : leadD c.toNat = (1, 128, 191) := by unfold leadD; rw [if_pos hc]
      rw [Lib.validD_cons c r hc, ← utf8_valid f r hr]
      simp [utf8D, hl, contD]
    · rw [Lib.validD_lead (c :: r) (by simp) (by simpa using hc)]
      simp only [List.getD_cons_zero]
      rcases lead_first c.toNat (by omega) c.toNat_lt with ⟨h1, h2⟩ | ⟨hn, h2, h3, h4⟩
      · rw [h2]
        simp [utf8D, h1, Lib.checkN]
      · rw [h2, h3, h4]
        refine Eq.trans ?_ (utf8_tail _ _ _ hn r c Lib.validD).symm
        simp only [utf8D]
        rw [utf8_valid f (r.drop ((leadD c.toNat).1 - 1)) (by simp; omega)]

theorem utf8_str (s : ByteArray) : utf8D s.size (sb s) = Lib.validD (sb s) := utf8_valid _ _ (by rw [sb_length]; exact Nat.le_refl _)

theorem keys_same (l : List ByteArray) : keysOK l ↔ keysP l := by
  unfold keysOK keyOK keysP keyB
  constructor
  · intro h
    refine ⟨fun x hx => ?_, ?_⟩
    · obtain ⟨i, hi, rfl⟩ := List.getElem_of_mem hx
      have := h i hi
      rw [utf8_str] at this
      exact ⟨this.1, this.2.1, this.2.2.1⟩
    · rw [List.nodup_iff_pairwise_ne, List.pairwise_iff_getElem]
      intro i j hi hj hij
      exact (h j hj).2.2.2 i hi hij
  · rintro ⟨h1, h2⟩ i hi
    obtain ⟨a, b, c⟩ := h1 _ (List.getElem_mem hi)
    rw [utf8_str]
    refine ⟨a, b, c, fun q hq hqi => ?_⟩
    rw [List.nodup_iff_pairwise_ne, List.pairwise_iff_getElem] at h2
    exact h2 q i hq hi hqi
end Go.Proofs.YtpmafabphlejeaaGreat
/-
  The contracts of the document's own May and Check.
  Conditions: none but sizes.
-/
namespace Go.Proofs.YtpmafabphlejeaaGreat
open Go.RowKit
set_option linter.unusedVariables false
set_option linter.unusedSimpArgs false

theorem hd8 {t : Tree} (h : t.k = 8) : headOK t ↔ t.n ≤ 1 ∧ t.s.size = 0 ∧ t.l = [] ∧ t.ks = [] := by unfold headOK rightKeys; simp [h, knownD, layD]
theorem hd2 {t : Tree} (h : t.k = 2) : headOK t ↔ t.n ≤ 255 ∧ t.s.size = 0 ∧ t.l = [] ∧ t.ks = [] := by unfold headOK rightKeys; simp [h, knownD, layD]
theorem hd49 {t : Tree} (h : t.k = 49) : headOK t ↔ t.n ≤ 18446744073709551615 ∧ t.s.size = 0 ∧ t.l = [] ∧ t.ks = [] := by unfold headOK rightKeys; simp [h, knownD, layD]
theorem hd50 {t : Tree} (h : t.k = 50) : headOK t ↔ t.n ≤ 18446744073709551615 ∧ t.s.size = 0 ∧ t.l = [] ∧ t.ks = [] := by unfold headOK rightKeys; simp [h, knownD, layD]
theorem hd240 {t : Tree} (h : t.k = 240) : headOK t ↔ t.n = 0 ∧ t.s.size = 0 ∧ t.l = [] ∧ t.ks = [] := by unfold headOK rightKeys; simp [h, knownD, layD]
theorem hd149 {t : Tree} (h : t.k = 149) : headOK t ↔ t.n = 0 ∧ t.s.size ≤ 4096 ∧ t.l = [] ∧ Lib.validD (sb t.s) = true ∧ t.ks = [] := by unfold headOK rightKeys; simp [h, knownD, layD]
theorem hd160 {t : Tree} (h : t.k = 160) : headOK t ↔ t.n = 0 ∧ t.s.size ≤ 4096 ∧ t.l = [] ∧ t.ks = [] := by unfold headOK rightKeys; simp [h, knownD, layD]
theorem hd169 {t : Tree} (h : t.k = 169) : headOK t ↔ t.n = 0 ∧ t.s.size = 0 ∧ t.ks = [] := by unfold headOK rightKeys; simp [h, knownD, layD]
theorem hd168 {t : Tree} (h : t.k = 168) : headOK t ↔ t.n = 0 ∧ t.s.size = 0 ∧ t.ks.length = t.l.length ∧ keysP t.ks := by unfold headOK rightKeys; simp [h, knownD, layD]
theorem may_head {t : Tree} (h : validT t = true) : headOK t := by
  rw [validT_eq, Bool.and_eq_true] at h
  exact (headB_iff t).1 h.1
theorem validT_bad {t : Tree} (h : ¬ headOK t) : validT t = false := by rw [validT_eq, headB_no h]; rfl
theorem validT_list {t : Tree} (h : headOK t) : validT t = validL t.l := by rw [validT_eq, (headB_iff t).2 h]; rfl
theorem validT_leaf {t : Tree} (h : headOK t) (hl : t.l = []) : validT t = true := by rw [validT_list h, hl]; rfl
theorem size_zero {s : ByteArray} : s.size = 0 ↔ s = ⟨#[]⟩ := by
  constructor
  · intro h
    cases s with
    | mk d => simp [ByteArray.size] at h; rw [h]
  · rintro rfl; rfl

theorem validL_false {l : List Tree} (j : Nat) (hj : j < l.length) (h : validT l[j] = false) : validL l = false := by
  rw [validL_all, List.any_eq_true.2 ⟨_, List.getElem_mem hj, by rw [h]; rfl⟩]; rfl
theorem validL_true {l : List Tree} (h : ∀ j (hj : j < l.length), validT l[j] = true) : validL l = true := by
  have : (l.any fun t => !validT t) = false := by
    rw [List.any_eq_false]
    intro x hx
    obtain ⟨q, hq, rfl⟩ := List.getElem_of_mem hx
    rw [h q hq]
    decide
  rw [validL_all, this]; rfl

theorem empty_list : (⟨#[]⟩ : ByteArray).toList = [] := by decide +kernel

set_option maxRecDepth 100000 in
set_option maxHeartbeats 8000000 in
theorem may_any (N : Nat) : ∀ (t : Tree) (vs : List Value) (w : World), cntT t = N → ShowsT w t vs →
    Calls Tryz.prog 140 #[.agg vs.toArray] w fun e w' => e = .returned (.bool (validT t)) ∧ Below w.heap.size w w' := by
  induction N using Nat.strongRecOn with
  | ind N ih =>
  intro t vs w hN h
  have IH := Lib.hid (fun j (hj : j < t.l.length) vs w' (hs : ShowsT w' (t.l[j]'hj) vs) => ih _ (by rw [← hN]; exact cnt_child t j hj) _ vs w' rfl hs)
  obtain ⟨kv, A, c, d0, d1, cs, rfl, hk, hn, hks, hkl, hkz, hsz, hln, hlc, hcm, _⟩ := h.open
  obtain ⟨A3, c3, rfl⟩ := str_form hks
  have HSH := Lib.hid (fun w' (hw' : Below w.heap.size w w') j (hj : j < t.l.length) => (h.kept hw' (Nat.le_refl _)).child j hj)
  have hu : ∀ w', Calls Tryz.prog 145 #[.string t.s] w' fun e w'' => e = .returned (.bool (Lib.validD (sb t.s))) ∧ w'' = w' := fun w' => by
    have := qutf8_any t.s w' hsz
    rw [utf8_str] at this
    exact this
  have HU := Lib.hid hu
  have HK := Lib.hid (fun w' (hw' : Below w.heap.size w w') => qkeys_any _ _ t.ks w' (hks.below' hw' (Nat.le_refl _)) hkl hkz)
  obtain ⟨R, hR⟩ : ∃ R, R = validT t := ⟨_, rfl⟩
  obtain ⟨nk, hnk⟩ : ∃ nk, nk = t.ks.length := ⟨_, rfl⟩
  obtain ⟨nl, hnl⟩ : ∃ nl, nl = t.l.length := ⟨_, rfl⟩
  obtain ⟨K, hK⟩ : ∃ K, K = t.k := ⟨_, rfl⟩
  obtain ⟨M, hM⟩ : ∃ M, M = t.n := ⟨_, rfl⟩
  obtain ⟨S, hS⟩ : ∃ S, S = t.s := ⟨_, rfl⟩
  rw [← hR]
  simp only [← hnk, ← hnl, ← hK, ← hM, ← hS] at hk hn hkl hsz hln hlc HK hu ⊢
  have HU := Lib.hid hu
  have HB := Lib.hid (below_boxV w (Obj.cells #[.int .u8 K, .int .u64 M, .string S, .slice A3 nk c3, .slice A nl c] 31))
  have hke : t.ks = [] ↔ nk = 0 := by rw [hnk]; exact List.length_eq_zero_iff.symm
  have hle : t.l = [] ↔ nl = 0 := by rw [hnl]; exact List.length_eq_zero_iff.symm
  have hse : t.s.size = 0 ↔ S.toList = [] := by
    rw [← hS]
    constructor
    · intro h; rw [size_zero.1 h]; exact empty_list
    · intro h
      by_cases h0 : S = ⟨#[]⟩
      · rw [h0]; rfl
      · have := toListNe h0
        rw [h, empty_list] at this
        simp at this
  clear hu ih hN h hks hkz
  by_cases hsc : K ≠ 149 ∧ K ≠ 160 ∧ K ≠ 168 ∧ K ≠ 169
  · obtain ⟨q1, q2, q3, q4⟩ := hsc
    have b1 : ((K : Int) == 149) = false := by simp; omega
    have b2 : ((K : Int) == 160) = false := by simp; omega
    have b3 : ((K : Int) == 168) = false := by simp; omega
    have b4 : ((K : Int) == 169) = false := by simp; omega
    have b5 : ((K : Int) != 168) = true := by simp; omega
    have hsc : headOK t → S.toList = [] ∧ nl = 0 ∧ nk = 0 := fun h => by
      rw [← hse, ← hle, ← hke]
      have h' := h
      obtain ⟨h1, h2, h3, h4, h5, h6⟩ := h
      unfold knownD at h1
      have h1 := of_decide_eq_true h1
      rcases h1 with h | h | h | h | h | h | h | h | h
      · exact ((hd240 h).1 h').2
      · exact ((hd8 h).1 h').2
      · exact ((hd2 h).1 h').2
      · exact ((hd50 h).1 h').2
      · exact ((hd49 h).1 h').2
      all_goals omega
    by_cases g1 : 0 < (nk : Int)
    · have hR' := Lib.hid (hR.trans (validT_bad fun h => by have := (hsc h).2.2; omega))
      clear hsc hR q1 q2 q3 q4 hnk hnl hK hM hS hke hle hse
      go_enter Tryz.func140, Tryz.ntmps140
      go_wp2_with fail
      go_ret
      exact ⟨by rw [hR'.out]; rfl, HB.out⟩
    obtain rfl : nk = 0 := by omega
    by_cases g2 : 0 < (nl : Int)
    · have hR' := Lib.hid (hR.trans (validT_bad fun h => by have := (hsc h).2.1; omega))
      clear hsc hR q1 q2 q3 q4 hnk hnl hK hM hS hke hle hse
      go_enter Tryz.func140, Tryz.ntmps140
      go_wp2_with fail
      go_ret
      exact ⟨by rw [hR'.out]; rfl, HB.out⟩
    obtain rfl : nl = 0 := by omega
    by_cases g3 : S.toList = []
    case neg =>
      have hR' := Lib.hid (hR.trans (validT_bad fun h => g3 (hsc h).1))
      clear hsc hR q1 q2 q3 q4 hnk hnl hK hM hS hke hle hse
      go_enter Tryz.func140, Tryz.ntmps140
      go_wp2_with fail
      go_ret
      exact ⟨by rw [hR'.out]; rfl, HB.out⟩
    have hz : ¬ (4096 : Int) < (S.size : Int) := by have := hse.2 g3; rw [← hS] at this; omega
    have hl0 : t.l = [] := hle.2 rfl
    have hk0 : t.ks = [] := hke.2 rfl
    have hs0 := hse.2 g3
    by_cases k8 : K = 8
    · have hv : R = decide ((M : Int) ≤ 1) := by
        rw [hR]
        have h8 := hd8 (hK.symm.trans k8)
        by_cases h : M ≤ 1
        · rw [validT_leaf (h8.2 ⟨by omega, hs0, hl0, hk0⟩) hl0]; simp; omega
        · rw [validT_bad (fun hh => by have := (h8.1 hh).1; omega)]; simp; omega
      have HV := Lib.hid hv
      subst k8
      clear hsc hR q1 q2 q3 q4 hnk hnl hK hM hS hke hle hse hl0 hk0 hs0 hv
      go_enter Tryz.func140, Tryz.ntmps140
      go_wp2_with fail
      go_ret
      exact ⟨by rw [HV.out]; rfl, HB.out⟩
    by_cases k2 : K = 2
    · have hv : R = decide ((M : Int) ≤ 255) := by
        rw [hR]
        have h8 := hd2 (hK.symm.trans k2)
        by_cases h : M ≤ 255
        · rw [validT_leaf (h8.2 ⟨by omega, hs0, hl0, hk0⟩) hl0]; simp; omega
        · rw [validT_bad (fun hh => by have := (h8.1 hh).1; omega)]; simp; omega
      have HV := Lib.hid hv
      subst k2
      clear hsc hR q1 q2 q3 q4 hnk hnl hK hM hS hke hle hse hl0 hk0 hs0 hv
      go_enter Tryz.func140, Tryz.ntmps140
      go_wp2_with fail
      go_ret
      exact ⟨by rw [HV.out]; rfl, HB.out⟩
    by_cases k49 : K = 49
    · have HV := Lib.hid (hR.trans (validT_leaf ((hd49 (hK.symm.trans k49)).2 ⟨by omega, hs0, hl0, hk0⟩) hl0))
      subst k49
      clear hsc hR q1 q2 q3 q4 hnk hnl hK hM hS hke hle hse hl0 hk0 hs0
      go_enter Tryz.func140, Tryz.ntmps140
      go_wp2_with fail
      go_ret
      exact ⟨by rw [HV.out]; rfl, HB.out⟩
    by_cases k50 : K = 50
    · have HV := Lib.hid (hR.trans (validT_leaf ((hd50 (hK.symm.trans k50)).2 ⟨by omega, hs0, hl0, hk0⟩) hl0))
      subst k50
      clear hsc hR q1 q2 q3 q4 hnk hnl hK hM hS hke hle hse hl0 hk0 hs0
      go_enter Tryz.func140, Tryz.ntmps140
      go_wp2_with fail
      go_ret
      exact ⟨by rw [HV.out]; rfl, HB.out⟩
    by_cases k240 : K = 240
    · by_cases m0 : M = 0
      · have HV := Lib.hid (hR.trans (validT_leaf ((hd240 (hK.symm.trans k240)).2 ⟨by omega, hs0, hl0, hk0⟩) hl0))
        subst k240
        subst m0
        clear hsc hR q1 q2 q3 q4 hnk hnl hK hM hS hke hle hse hl0 hk0 hs0
        go_enter Tryz.func140, Tryz.ntmps140
        go_wp2_with fail
        go_loopw [5] (fun i wr => i = .int .i64 0 ∧ BoxV wr w.heap.size (.int .u8 240) (.int .u64 0) (.string S) (.slice A3 0 c3) (.slice A 0 c) ∧ Below w.heap.size w wr) (fun _ _ => 0)
        case atStart => exact ⟨rfl, BoxV.new w, HB.out⟩
        case round =>
          obtain ⟨rfl, hX, hb⟩ := hrel
          rename World => wj
          have x4 := hX.c4
          go_wp2_with fail
          go_ret
          exact ⟨by rw [HV.out]; rfl, hb⟩
      · have HV := Lib.hid (hR.trans (validT_bad fun hh => by have := ((hd240 (hK.symm.trans k240)).1 hh).1; omega))
        have hMI : ((M : Int) != 0) = true := by simp; omega
        subst k240
        clear hsc hR q1 q2 q3 q4 hnk hnl hK hM hS hke hle hse hl0 hk0 hs0
        go_enter Tryz.func140, Tryz.ntmps140
        go_wp2_with fail
        go_ret
        exact ⟨by rw [HV.out]; rfl, HB.out⟩
    have HV := Lib.hid (hR.trans (validT_bad fun hh => by have := of_decide_eq_true hh.1; omega))
    have c1 : ((K : Int) == 8) = false := by simp; omega
    have c2 : ((K : Int) == 2) = false := by simp; omega
    have c3 : ((K : Int) == 49) = false := by simp; omega
    have c4 : ((K : Int) == 50) = false := by simp; omega
    have c5 : ((K : Int) == 240) = false := by simp; omega
    clear hsc hR q1 q2 q3 q4 hnk hnl hK hM hS hke hle hse hl0 hk0 hs0 k8 k2 k49 k50 k240
    go_enter Tryz.func140, Tryz.ntmps140
    go_wp2_with fail
    go_ret
    exact ⟨by rw [HV.out]; rfl, HB.out⟩
  by_cases k149 : K = 149
  · have hd := hd149 (hK.symm.trans k149)
    subst k149
    by_cases g1 : 0 < (nk : Int)
    · have HV := Lib.hid (hR.trans (validT_bad fun hh => by have := hke.1 (hd.1 hh).2.2.2.2; omega))
      clear hR hnk hnl hK hM hS hke hle hse hsc hd
      go_enter Tryz.func140, Tryz.ntmps140
      go_wp2_with fail
      go_ret
      exact ⟨by rw [HV.out]; rfl, HB.out⟩
    obtain rfl : nk = 0 := by omega
    by_cases g2 : 0 < (nl : Int)
    · have HV := Lib.hid (hR.trans (validT_bad fun hh => by have := hle.1 (hd.1 hh).2.2.1; omega))
      clear hR hnk hnl hK hM hS hke hle hse hsc hd
      go_enter Tryz.func140, Tryz.ntmps140
      go_wp2_with fail
      go_ret
      exact ⟨by rw [HV.out]; rfl, HB.out⟩
    obtain rfl : nl = 0 := by omega
    by_cases g3 : (4096 : Int) < (S.size : Int)
    · have HV := Lib.hid (hR.trans (validT_bad fun hh => by have := (hd.1 hh).2.1; rw [← hS] at this; omega))
      clear hR hnk hnl hK hM hS hke hle hse hsc hd
      go_enter Tryz.func140, Tryz.ntmps140
      go_wp2_with fail
      go_ret
      exact ⟨by rw [HV.out]; rfl, HB.out⟩
    cases hvd : Lib.validD (sb S) with
    | false =>
      have HV := Lib.hid (hR.trans (validT_bad fun hh => by have := (hd.1 hh).2.2.2.1; rw [← hS, hvd] at this; exact absurd this (by decide)))
      rw [hvd] at HU
      clear hR hnk hnl hK hM hS hke hle hse hsc hd hvd
      go_enter Tryz.func140, Tryz.ntmps140
      go_wp2_with fail
      refine (HU.out _).mono ?_
      rintro e wx ⟨rfl, rfl⟩
      go_wp2_with fail
      go_ret
      exact ⟨by rw [HV.out]; rfl, HB.out⟩
    | true =>
    rw [hvd] at HU
    by_cases m0 : M = 0
    · have HV := Lib.hid (hR.trans (validT_leaf (hd.2 ⟨by omega, by rw [← hS]; omega, hle.2 rfl, by rw [← hS]; exact hvd, hke.2 rfl⟩) (hle.2 rfl)))
      subst m0
      clear hR hnk hnl hK hM hS hke hle hse hsc hd hvd
      go_enter Tryz.func140, Tryz.ntmps140
      go_wp2_with fail
      refine (HU.out _).mono ?_
      rintro e wx ⟨rfl, rfl⟩
      go_wp2_with fail
      go_loopw [5] (fun i wr => i = .int .i64 0 ∧ BoxV wr w.heap.size (.int .u8 149) (.int .u64 0) (.string S) (.slice A3 0 c3) (.slice A 0 c) ∧ Below w.heap.size w wr) (fun _ _ => 0)
      case atStart => exact ⟨rfl, BoxV.new w, HB.out⟩
      case round =>
        obtain ⟨rfl, hX, hb⟩ := hrel
        rename World => wj
        have x4 := hX.c4
        go_wp2_with fail
        go_ret
        exact ⟨by rw [HV.out]; rfl, hb⟩
    · have HV := Lib.hid (hR.trans (validT_bad fun hh => by have := (hd.1 hh).1; omega))
      have hMI : ((M : Int) != 0) = true := by simp; omega
      clear hR hnk hnl hK hM hS hke hle hse hsc hd hvd
      go_enter Tryz.func140, Tryz.ntmps140
      go_wp2_with fail
      refine (HU.out _).mono ?_
      rintro e wx ⟨rfl, rfl⟩
      go_wp2_with fail
      go_ret
      exact ⟨by rw [HV.out]; rfl, HB.out⟩
  by_cases k160 : K = 160
  · have hd := hd160 (hK.symm.trans k160)
    subst k160
    by_cases g1 : 0 < (nk : Int)
    · have HV := Lib.hid (hR.trans (validT_bad fun hh => by have := hke.1 (hd.1 hh).2.2.2; omega))
      clear hR hnk hnl hK hM hS hke hle hse hsc hd
      go_enter Tryz.func140, Tryz.ntmps140
      go_wp2_with fail
      go_ret
      exact ⟨by rw [HV.out]; rfl, HB.out⟩
    obtain rfl : nk = 0 := by omega
    by_cases g2 : 0 < (nl : Int)
    · have HV := Lib.hid (hR.trans (validT_bad fun hh => by have := hle.1 (hd.1 hh).2.2.1; omega))
      clear hR hnk hnl hK hM hS hke hle hse hsc hd
      go_enter Tryz.func140, Tryz.ntmps140
      go_wp2_with fail
      go_ret
      exact ⟨by rw [HV.out]; rfl, HB.out⟩
    obtain rfl : nl = 0 := by omega
    by_cases g3 : (4096 : Int) < (S.size : Int)
    · have HV := Lib.hid (hR.trans (validT_bad fun hh => by have := (hd.1 hh).2.1; rw [← hS] at this; omega))
      clear hR hnk hnl hK hM hS hke hle hse hsc hd
      go_enter Tryz.func140, Tryz.ntmps140
      go_wp2_with fail
      go_ret
      exact ⟨by rw [HV.out]; rfl, HB.out⟩
    by_cases m0 : M = 0
    · have HV := Lib.hid (hR.trans (validT_leaf (hd.2 ⟨by omega, by rw [← hS]; omega, hle.2 rfl, hke.2 rfl⟩) (hle.2 rfl)))
      subst m0
      clear hR hnk hnl hK hM hS hke hle hse hsc hd
      go_enter Tryz.func140, Tryz.ntmps140
      go_wp2_with fail
      go_loopw [5] (fun i wr => i = .int .i64 0 ∧ BoxV wr w.heap.size (.int .u8 160) (.int .u64 0) (.string S) (.slice A3 0 c3) (.slice A 0 c) ∧ Below w.heap.size w wr) (fun _ _ => 0)
      case atStart => exact ⟨rfl, BoxV.new w, HB.out⟩
      case round =>
        obtain ⟨rfl, hX, hb⟩ := hrel
        rename World => wj
        have x4 := hX.c4
        go_wp2_with fail
        go_ret
        exact ⟨by rw [HV.out]; rfl, hb⟩
    · have HV := Lib.hid (hR.trans (validT_bad fun hh => by have := (hd.1 hh).1; omega))
      have hMI : ((M : Int) != 0) = true := by simp; omega
      clear hR hnk hnl hK hM hS hke hle hse hsc hd
      go_enter Tryz.func140, Tryz.ntmps140
      go_wp2_with fail
      go_ret
      exact ⟨by rw [HV.out]; rfl, HB.out⟩
  have HNL := Lib.hid hnl
  by_cases k169 : K = 169
  · have hd := hd169 (hK.symm.trans k169)
    subst k169
    by_cases g1 : 0 < (nk : Int)
    · have HV := Lib.hid (hR.trans (validT_bad fun hh => by have := hke.1 (hd.1 hh).2.2; omega))
      clear hR hnk hnl hK hM hS hke hle hse hsc hd
      go_enter Tryz.func140, Tryz.ntmps140
      go_wp2_with fail
      go_ret
      exact ⟨by rw [HV.out]; rfl, HB.out⟩
    obtain rfl : nk = 0 := by omega
    by_cases g3 : S.toList = []
    case neg =>
      have HV := Lib.hid (hR.trans (validT_bad fun hh => by have := (hd.1 hh).2.1; exact g3 (hse.1 this)))
      clear hR hnk hnl hK hM hS hke hle hse hsc hd
      go_enter Tryz.func140, Tryz.ntmps140
      go_wp2_with fail
      go_ret
      exact ⟨by rw [HV.out]; rfl, HB.out⟩
    have hz : ¬ (4096 : Int) < (S.size : Int) := by have := hse.2 g3; rw [← hS] at this; omega
    by_cases m0 : M = 0
    · have HV := Lib.hid (hR.trans (validT_list (hd.2 ⟨by omega, hse.2 g3, hke.2 rfl⟩)))
      subst m0
      clear hR hnk hnl hK hM hS hke hle hse hsc hd
      go_enter Tryz.func140, Tryz.ntmps140
      go_wp2_with fail
      go_loopw [5] (fun i wr => ∃ j : Nat, j ≤ nl ∧ i = .int .i64 j ∧ BoxV wr w.heap.size (.int .u8 169) (.int .u64 0) (.string S) (.slice A3 0 c3) (.slice A nl c) ∧ Below w.heap.size w wr ∧ ∀ q (h' : q < t.l.length), q < j → validT t.l[q] = true) (fun i _ => nl - (intOf i).toNat)
      case atStart => exact ⟨0, by omega, rfl, BoxV.new w, HB.out, fun q _ h => absurd h (by omega)⟩
      case round =>
        obtain ⟨j, hj, rfl, hX, hb, hlo⟩ := hrel
        rename World => wj
        have x4 := hX.c4
        by_cases hlt : j < nl
        · have hlt' : j < t.l.length := by rw [← HNL.out]; exact hlt
          obtain ⟨d, o, v0, v1, v2, v3, v4, rfl, hd, hch, e0, e1, e2, e3, e4⟩ := HSH.out wj hb j hlt'
          have hjl : (j : Int) < (nl : Int) := by omega
          have hc := IH.out j hlt' _ _ hch
          cases hdp : validT t.l[j] with
          | false =>
            rw [hdp] at hc
            have HF := Lib.hid (HV.out.trans (validL_false j hlt' hdp))
            have HC := Lib.hid hc
            clear hc hlo hdp hch
            go_wp2_with fail
            refine HC.out.mono ?_
            rintro e wx ⟨rfl, hx⟩
            go_wp2_with fail
            go_ret
            exact ⟨by rw [HF.out]; rfl, hb.trans (hx.mono hb.size)⟩
          | true =>
            rw [hdp] at hc
            have HC := Lib.hid hc
            have HLO : Hid (∀ q (h' : q < t.l.length), q < j + 1 → validT t.l[q] = true) := by
              show ∀ q (h' : q < t.l.length), q < j + 1 → validT t.l[q] = true
              intro q hq hqj
              by_cases hqj2 : q < j
              · exact hlo q hq hqj2
              · obtain rfl : q = j := by omega
                exact hdp
            clear hc hlo hdp hch
            go_wp2_with fail
            refine HC.out.mono ?_
            rintro e wx ⟨rfl, hx⟩
            go_wp2_with fail
            go_roundw
            case rel => exact ⟨j + 1, by omega, by go_num, hX.kept hx (Nat.le_refl _), hb.trans (hx.mono hb.size), HLO.out⟩
            case measure => simp [intOf]; omega
        · have hjl : ¬ (j : Int) < (nl : Int) := by omega
          have HF := Lib.hid (HV.out.trans (validL_true fun q hq => hlo q hq (by have := HNL.out; omega)))
          clear hlo
          go_wp2_with fail
          go_ret
          exact ⟨by rw [HF.out]; rfl, hb⟩
    · have HV := Lib.hid (hR.trans (validT_bad fun hh => by have := (hd.1 hh).1; omega))
      have hMI : ((M : Int) != 0) = true := by simp; omega
      clear hR hnk hnl hK hM hS hke hle hse hsc hd
      go_enter Tryz.func140, Tryz.ntmps140
      go_wp2_with fail
      go_ret
      exact ⟨by rw [HV.out]; rfl, HB.out⟩
  have k168 : K = 168 := by omega
  have hd := hd168 (hK.symm.trans k168)
  subst k168
  by_cases g3 : S.toList = []
  case neg =>
    have HV := Lib.hid (hR.trans (validT_bad fun hh => by have := (hd.1 hh).2.1; exact g3 (hse.1 this)))
    clear hR hnk hnl hK hM hS hke hle hse hsc hd k169 k149 k160
    go_enter Tryz.func140, Tryz.ntmps140
    go_wp2_with fail
    go_ret
    exact ⟨by rw [HV.out]; rfl, HB.out⟩
  have hz : ¬ (4096 : Int) < (S.size : Int) := by have := hse.2 g3; rw [← hS] at this; omega
  by_cases g1 : nk = nl
  case neg =>
    have HV := Lib.hid (hR.trans (validT_bad fun hh => by have := (hd.1 hh).2.2.1; omega))
    have hNI : ((nk : Int) != (nl : Int)) = true := by simp; omega
    clear hR hnk hnl hK hM hS hke hle hse hsc hd k169 k149 k160
    go_enter Tryz.func140, Tryz.ntmps140
    go_wp2_with fail
    go_ret
    exact ⟨by rw [HV.out]; rfl, HB.out⟩
  subst g1
  have hNI : ((nk : Int) != (nk : Int)) = false := by simp
  have hkk := keys_same t.ks
  have HHD := Lib.hid (show keysP t.ks → M = 0 → R = validL t.l from fun h1 h2 => hR.trans (validT_list (hd.2 ⟨by omega, hse.2 g3, by omega, h1⟩)))
  have HHN := Lib.hid (show (¬ keysP t.ks) ∨ M ≠ 0 → R = false from fun h1 => hR.trans (validT_bad fun hh => by have := hd.1 hh; rcases h1 with h1 | h1; exact h1 this.2.2.2; omega))
  have HKK := Lib.hid hkk
  clear hR hnk hnl hK hM hS hke hle hse hsc hd k169 k149 k160 hkk
  go_enter Tryz.func140, Tryz.ntmps140
  go_wp2_with fail
  refine (HK.out _ HB.out).mono ?_
  rintro e wx ⟨r, rfl, hr, q, rfl⟩
  have HBq := Lib.hid (below_drewN HB.out q)
  cases r with
  | false =>
    have HV := Lib.hid (HHN.out (.inl fun h => by have := hr.2 (HKK.out.2 h); exact absurd this (by decide)))
    clear hr
    go_wp2_with fail
    go_ret
    exact ⟨by rw [HV.out]; rfl, HBq.out⟩
  | true =>
    have HKP := Lib.hid (HKK.out.1 (hr.1 rfl))
    clear hr
    by_cases m0 : M = 0
    · have HV := Lib.hid (HHD.out HKP.out m0)
      subst m0
      go_wp2_with fail
      go_loopw [5] (fun i wr => ∃ j : Nat, j ≤ nk ∧ i = .int .i64 j ∧ BoxV wr w.heap.size (.int .u8 168) (.int .u64 0) (.string S) (.slice A3 nk c3) (.slice A nk c) ∧ Below w.heap.size w wr ∧ ∀ q (h' : q < t.l.length), q < j → validT t.l[q] = true) (fun i _ => nk - (intOf i).toNat)
      case atStart => exact ⟨0, by omega, rfl, (BoxV.new w : BoxV _ _ _ _ _ _ _), HBq.out, fun q _ h => absurd h (by omega)⟩
      case round =>
        obtain ⟨j, hj, rfl, hX, hb, hlo⟩ := hrel
        rename World => wj
        have x4 := hX.c4
        by_cases hlt : j < nk
        · have hlt' : j < t.l.length := by rw [← HNL.out]; exact hlt
          obtain ⟨d, o, v0, v1, v2, v3, v4, rfl, hd, hch, e0, e1, e2, e3, e4⟩ := HSH.out wj hb j hlt'
          have hjl : (j : Int) < (nk : Int) := by omega
          have hc := IH.out j hlt' _ _ hch
          cases hdp : validT t.l[j] with
          | false =>
            rw [hdp] at hc
            have HF := Lib.hid (HV.out.trans (validL_false j hlt' hdp))
            have HC := Lib.hid hc
            clear hc hlo hdp hch
            go_wp2_with fail
            refine HC.out.mono ?_
            rintro e wx ⟨rfl, hx⟩
            go_wp2_with fail
            go_ret
            exact ⟨by rw [HF.out]; rfl, hb.trans (hx.mono hb.size)⟩
          | true =>
            rw [hdp] at hc
            have HC := Lib.hid hc
            have HLO : Hid (∀ q (h' : q < t.l.length), q < j + 1 → validT t.l[q] = true) := by
              show ∀ q (h' : q < t.l.length), q < j + 1 → validT t.l[q] = true
              intro q hq hqj
              by_cases hqj2 : q < j
              · exact hlo q hq hqj2
              · obtain rfl : q = j := by omega
                exact hdp
            clear hc hlo hdp hch
            go_wp2_with fail
            refine HC.out.mono ?_
            rintro e wx ⟨rfl, hx⟩
            go_wp2_with fail
            go_roundw
            case rel => exact ⟨j + 1, by omega, by go_num, hX.kept hx (Nat.le_refl _), hb.trans (hx.mono hb.size), HLO.out⟩
            case measure => simp [intOf]; omega
        · have hjl : ¬ (j : Int) < (nk : Int) := by omega
          have HF := Lib.hid (HV.out.trans (validL_true fun q hq => hlo q hq (by have := HNL.out; omega)))
          clear hlo
          go_wp2_with fail
          go_ret
          exact ⟨by rw [HF.out]; rfl, hb⟩
    · have HV := Lib.hid (HHN.out (.inr m0))
      have hMI : ((M : Int) != 0) = true := by simp; omega
      go_wp2_with fail
      go_ret
      exact ⟨by rw [HV.out]; rfl, HBq.out⟩
end Go.Proofs.YtpmafabphlejeaaGreat
