/-
  Texts, together: MeP, MeX.
  Conditions: none but sizes.
-/
import Derived.Test.YtpbdnfonflmncaaGreatValPZ
import Derived.Test.YtpbdnfonflmncaaGreatSpansLZ
import Derived.Test.YtpbdnfonflmncaaGreatXiOZ
import Derived.Test.YtpbdnfonflmncaaGreatMeSZ
import Derived.Great.BuildSlice
import Derived.Test.YtpbdnfonflmncaaGreatMeAZ
set_option linter.unusedVariables false
set_option linter.unusedSimpArgs false
namespace Go.Proofs.YtpbdnfonflmncaaGreat
open Go.RowKit
structure ArgP where
  is : Bool
  n : Nat
  s : ByteArray
  f : Nat
  g : ByteArray
  h : ByteArray
  q : List Sp
  v : Tree
def zT : Tree := .node 0 0 ⟨#[]⟩ [] []
def zA : ArgP := ⟨false, 0, ⟨#[]⟩, 0, ⟨#[]⟩, ⟨#[]⟩, [], zT⟩
def widD (k : Nat) : Nat := if k = 110 then 1 else if k = 115 then 1 else if k = 119 then 2 else if k = 116 then 2 else if k = 100 then 4 else 0
def isNum (k : Nat) : Prop := k = 110 ∨ k = 119 ∨ k = 100
def isTxt (k : Nat) : Prop := k = 115 ∨ k = 116
instance (k : Nat) : Decidable (isNum k) := by unfold isNum; infer_instance
instance (k : Nat) : Decidable (isTxt k) := by unfold isTxt; infer_instance
def lett (k : Nat) : Prop := k = 98 ∨ isNum k ∨ isTxt k ∨ k = 120 ∨ k = 114 ∨ k = 118
def fitA (k : Nat) (a : ArgP) : Prop :=
  (isNum k → a.n < 256 ^ widD k) ∧ (isTxt k → a.s.size < 256 ^ widD k) ∧ (k = 120 → mayX a.g a.h) ∧ (k = 114 → canon a.q ∧ a.q.length ≤ 1000) ∧ (k = 118 → checkT a.v = 0)
def bareA (k : Nat) (a : ArgP) : Prop :=
  (¬ isNum k → a.n = 0) ∧ (¬ isTxt k → a.s = ⟨#[]⟩) ∧ (k ≠ 120 → a.f = 0 ∧ a.g = ⟨#[]⟩ ∧ a.h = ⟨#[]⟩) ∧ (k ≠ 114 → a.q = []) ∧ (k ≠ 118 → a.v = zT)
def validA (k : Nat) (a : ArgP) : Prop := (k ≠ 98 → a.is = true) ∧ fitA k a ∧ bareA k a
def okA (a : ArgP) : Prop := a.n < 18446744073709551616 ∧ a.f < 4294967296 ∧ u32s a.q
def encA (k : Nat) (a : ArgP) : List UInt8 :=
  if isNum k then be (widD k) a.n else if isTxt k then be (widD k) a.s.size ++ sb a.s else if k = 120 then encX a.f a.g a.h else if k = 114 then encS a.q else if k = 118 then bytesT a.v else []
def nextX (s : St) : (Nat × ByteArray × ByteArray) × St :=
  match s with
  | none => ((0, ⟨#[]⟩, ⟨#[]⟩), none)
  | some l =>
    match getD l with
    | none => ((0, ⟨#[]⟩, ⟨#[]⟩), none)
    | some (f, g, h, n) => if mayX (str8 g) (str8 h) then ((f, str8 g, str8 h), some (l.drop n)) else ((0, ⟨#[]⟩, ⟨#[]⟩), none)
def nextS (s : St) : List Sp × St :=
  match s with
  | none => ([], none)
  | some l => if (getD_ l).2.2 = 0 then ((getD_ l).1, some (l.drop (getD_ l).2.1)) else ([], none)
noncomputable def nextV (s : St) : Tree × St :=
  match s with
  | none => (zT, none)
  | some l =>
    match getP l with
    | none => (zT, none)
    | some (t, n) => (t, some (l.drop n))
noncomputable def readA (k : Nat) (s : St) : ArgP × St :=
  if isNum k then ({ zA with n := (numS (widD k) s).1 }, (numS (widD k) s).2)
  else if isTxt k then ({ zA with s := str8 (textS (widD k) (256 ^ widD k - 1 : Nat) s).1 }, (textS (widD k) (256 ^ widD k - 1 : Nat) s).2)
  else if k = 120 then ({ zA with f := (nextX s).1.1, g := (nextX s).1.2.1, h := (nextX s).1.2.2 }, (nextX s).2)
  else if k = 114 then ({ zA with q := (nextS s).1 }, (nextS s).2)
  else if k = 118 then ({ zA with v := (nextV s).1 }, (nextV s).2)
  else (zA, s)
theorem numS_below (k : Nat) (s : St) (hk : num (k : Int) = true) : (numS (k : Int) s).1 < 256 ^ k := by
 unfold numS
 rw [if_pos hk]
 refine Nat.lt_of_lt_of_le (numOf_lt _) (Nat.pow_le_pow_right (by omega) ?_)
 have := takeS_len (k : Int) s
 omega
theorem widD_num {k : Nat} (h : isNum k) : num (widD k : Int) = true ∧ (widD k = 1 ∨ widD k = 2 ∨ widD k = 4) := by
 rcases h with rfl | rfl | rfl <;> exact ⟨by decide, by decide⟩
theorem widD_txt {k : Nat} (h : isTxt k) : txt (widD k : Int) = true ∧ (widD k = 1 ∨ widD k = 2) := by
 rcases h with rfl | rfl <;> exact ⟨by decide, by decide⟩
theorem widD_u64 {k : Nat} : 256 ^ widD k ≤ 4294967296 := by
 unfold widD
 split
 ·decide
 ·split
  ·decide
  ·split
   ·decide
   ·split
    ·decide
    ·split <;> decide
theorem arg_eta (a : ArgP) (n : Nat) (s : ByteArray) (f : Nat) (g h : ByteArray) (q : List Sp) (v : Tree) (h1 : a.n = n) (h2 : a.s = s) (h3 : a.f = f) (h4 : a.g = g) (h5 : a.h = h) (h6 : a.q = q) (h7 : a.v = v) :
  ({ a with is := false } : ArgP) = ⟨false, n, s, f, g, h, q, v⟩ := by
 cases a; simp_all
theorem readA_enc (k : Nat) (a : ArgP) (r : List UInt8) (hk : lett k) (hf : fitA k a) (hb : bareA k a) (ho : okA a) : readA k (some (encA k a ++ r)) = ({ a with is := false }, some r) := by
 obtain ⟨f1, f2, f3, f4, f5⟩ := hf
 obtain ⟨b1, b2, b3, b4, b5⟩ := hb
 obtain ⟨o1, o2, o3⟩ := ho
 by_cases hn : isNum k
 ·have hw := (widD_num hn).1
  have nt : ¬ isTxt k := by rcases hn with rfl | rfl | rfl <;> decide
  have e : k ≠ 120 ∧ k ≠ 114 ∧ k ≠ 118 := by rcases hn with rfl | rfl | rfl <;> decide
  unfold readA encA
  rw [if_pos hn, if_pos hn, numS_be _ _ _ hw (f1 hn)]
  obtain ⟨x1, x2, x3⟩ := b3 e.1
  rw [arg_eta a a.n _ _ _ _ _ _ rfl (b2 nt) x1 x2 x3 (b4 e.2.1) (b5 e.2.2)]
  rfl
 by_cases ht : isTxt k
 ·have hw := (widD_txt ht).1
  have e : k ≠ 120 ∧ k ≠ 114 ∧ k ≠ 118 := by rcases ht with rfl | rfl <;> decide
  have hs := f2 ht
  unfold readA encA
  rw [if_neg hn, if_pos ht, if_neg hn, if_pos ht]
  have := textS_be (widD k) (256 ^ widD k - 1) (sb a.s) r hw (by rw [sb_length]; exact hs) (by rw [sb_length]; omega)
  rw [sb_length] at this
  rw [List.append_assoc, this, str8_sb]
  obtain ⟨x1, x2, x3⟩ := b3 e.1
  rw [arg_eta a _ a.s _ _ _ _ _ (b1 hn) rfl x1 x2 x3 (b4 e.2.1) (b5 e.2.2)]
  rfl
 by_cases hx : k = 120
 ·subst hx
  unfold readA encA
  rw [if_neg hn, if_neg ht, if_pos rfl, if_neg hn, if_neg ht, if_pos rfl]
  have := getD_enc a.f a.g a.h r (f3 rfl) o2
  have hm := f3 rfl
  unfold nextX
  simp only [this, str8_sb, if_pos hm, List.drop_left]
  rw [arg_eta a _ _ a.f a.g a.h _ _ (b1 hn) (b2 ht) rfl rfl rfl (b4 (by decide)) (b5 (by decide))]
  rfl
 by_cases hq : k = 114
 ·subst hq
  unfold readA encA
  rw [if_neg hn, if_neg ht, if_neg hx, if_pos rfl, if_neg hn, if_neg ht, if_neg hx, if_pos rfl]
  have := getD_encS a.q r o3 (f4 rfl).1 (f4 rfl).2
  unfold nextS
  simp only [this, if_true, List.drop_left]
  obtain ⟨x1, x2, x3⟩ := b3 hx
  rw [arg_eta a _ _ _ _ _ a.q _ (b1 hn) (b2 ht) x1 x2 x3 rfl (b5 (by decide))]
  rfl
 by_cases hv : k = 118
 ·subst hv
  unfold readA encA
  rw [if_neg hn, if_neg ht, if_neg hx, if_neg hq, if_pos rfl, if_neg hn, if_neg ht, if_neg hx, if_neg hq, if_pos rfl]
  have := get_put (f5 rfl) r
  unfold nextV
  simp only [this, List.drop_left]
  obtain ⟨x1, x2, x3⟩ := b3 hx
  rw [arg_eta a _ _ _ _ _ _ a.v (b1 hn) (b2 ht) x1 x2 x3 (b4 hq) rfl]
  rfl
 ·unfold readA encA
  rw [if_neg hn, if_neg ht, if_neg hx, if_neg hq, if_neg hv, if_neg hn, if_neg ht, if_neg hx, if_neg hq, if_neg hv]
  obtain ⟨x1, x2, x3⟩ := b3 hx
  rw [arg_eta a _ _ _ _ _ _ _ (b1 hn) (b2 ht) x1 x2 x3 (b4 hq) (b5 hv)]
  rfl
theorem readA_some (k : Nat) (s : St) (r : List UInt8) (h : (readA k s).2 = some r) :
  s = some (encA k (readA k s).1 ++ r) ∧ fitA k (readA k s).1 ∧ bareA k (readA k s).1 ∧ okA (readA k s).1 := by
 have h64 := @widD_u64 k
 by_cases hn : isNum k
 ·have hw := (widD_num hn).1
  have nt : ¬ isTxt k := by rcases hn with rfl | rfl | rfl <;> decide
  have e : k ≠ 120 ∧ k ≠ 114 ∧ k ≠ 118 := by rcases hn with rfl | rfl | rfl <;> decide
  have hlt := numS_below (widD k) s hw
  unfold readA at h ⊢
  rw [if_pos hn] at h ⊢
  refine ⟨?_, ⟨fun _ => hlt, fun c => absurd c nt, fun c => absurd c e.1, fun c => absurd c e.2.1, fun c => absurd c e.2.2⟩,
   ⟨fun c => absurd hn c, fun _ => rfl, fun _ => ⟨rfl, rfl, rfl⟩, fun _ => rfl, fun _ => rfl⟩, by show (numS (widD k) s).1 < _; omega, (by show (0 : Nat) < _; decide), fun s hs => by cases hs⟩
  unfold encA
  rw [if_pos hn]
  exact numS_some hw h
 by_cases ht : isTxt k
 ·have hw := (widD_txt ht).1
  have e : k ≠ 120 ∧ k ≠ 114 ∧ k ≠ 118 := by rcases ht with rfl | rfl <;> decide
  unfold readA at h ⊢
  rw [if_neg hn, if_pos ht] at h ⊢
  obtain ⟨h1, h2⟩ := textS_some hw h
  have hp : 1 ≤ 256 ^ widD k := by rcases (widD_txt ht).2 with e | e <;> rw [e] <;> decide
  refine ⟨?_, ⟨fun c => absurd c hn, fun _ => ?_, fun c => absurd c e.1, fun c => absurd c e.2.1, fun c => absurd c e.2.2⟩,
   ⟨fun _ => rfl, fun c => absurd ht c, fun _ => ⟨rfl, rfl, rfl⟩, fun _ => rfl, fun _ => rfl⟩, (by show (0 : Nat) < _; decide), (by show (0 : Nat) < _; decide), fun s hs => by cases hs⟩
  ·unfold encA
   rw [if_neg hn, if_pos ht]
   show s = some (be (widD k) (str8 _).size ++ sb (str8 _) ++ r)
   rw [str8_size, sb_str8, List.append_assoc]
   exact h1
  ·show (str8 _).size < _
   rw [str8_size]
   omega
 by_cases hx : k = 120
 ·subst hx
  unfold readA at h ⊢
  rw [if_neg hn, if_neg ht, if_pos rfl] at h ⊢
  unfold nextX at h ⊢
  cases s with
  | none => cases h
  | some l =>
   simp only at h ⊢
   cases hg : getD l with
   | none => rw [hg] at h; cases h
   | some y =>
    obtain ⟨f, g, hh, n⟩ := y
    rw [hg] at h
    simp only at h ⊢
    by_cases hm : mayX (str8 g) (str8 hh)
    ·rw [if_pos hm] at h
     simp only [if_pos hm]
     obtain ⟨e1, e2, e3⟩ := getD_sound hg hm
     simp only [Option.some.injEq] at h
     refine ⟨?_, ⟨fun c => absurd c hn, fun c => absurd c ht, fun _ => hm, fun c => absurd c (by decide), fun c => absurd c (by decide)⟩,
      ⟨fun _ => rfl, fun _ => rfl, fun c => absurd rfl c, fun _ => rfl, fun _ => rfl⟩, (by show (0 : Nat) < _; decide), e1, fun s hs => by cases hs⟩
     unfold encA
     rw [if_neg hn, if_neg ht, if_pos rfl]
     show some l = some (encX f (str8 g) (str8 hh) ++ r)
     rw [e2, ← h, List.take_append_drop]
    ·rw [if_neg hm] at h; cases h
 by_cases hq : k = 114
 ·subst hq
  unfold readA at h ⊢
  rw [if_neg hn, if_neg ht, if_neg hx, if_pos rfl] at h ⊢
  unfold nextS at h ⊢
  cases s with
  | none => cases h
  | some l =>
   simp only at h ⊢
   by_cases h0 : (getD_ l).2.2 = 0
   ·rw [if_pos h0] at h
    simp only [if_pos h0]
    obtain ⟨e1, e2, e3, e4, e5⟩ := getD_ok l h0
    simp only [Option.some.injEq] at h
    refine ⟨?_, ⟨fun c => absurd c hn, fun c => absurd c ht, fun c => absurd c hx, fun _ => ⟨e1, e3⟩, fun c => absurd c (by decide)⟩,
     ⟨fun _ => rfl, fun _ => rfl, fun _ => ⟨rfl, rfl, rfl⟩, fun c => absurd rfl c, fun _ => rfl⟩, (by show (0 : Nat) < _; decide), (by show (0 : Nat) < _; decide), e2⟩
    unfold encA
    rw [if_neg hn, if_neg ht, if_neg hx, if_pos rfl]
    show some l = some (encS (getD_ l).1 ++ r)
    rw [e5, ← h, List.take_append_drop]
   ·rw [if_neg h0] at h; cases h
 by_cases hv : k = 118
 ·subst hv
  unfold readA at h ⊢
  rw [if_neg hn, if_neg ht, if_neg hx, if_neg hq, if_pos rfl] at h ⊢
  unfold nextV at h ⊢
  cases s with
  | none => cases h
  | some l =>
   simp only at h ⊢
   cases hg : getP l with
   | none => rw [hg] at h; cases h
   | some y =>
    obtain ⟨t, n⟩ := y
    rw [hg] at h
    simp only at h ⊢
    obtain ⟨e1, e2, e3, r', e4⟩ := put_get hg
    simp only [Option.some.injEq] at h
    refine ⟨?_, ⟨fun c => absurd c hn, fun c => absurd c ht, fun c => absurd c hx, fun c => absurd c hq, fun _ => e1⟩,
     ⟨fun _ => rfl, fun _ => rfl, fun _ => ⟨rfl, rfl, rfl⟩, fun _ => rfl, fun c => absurd rfl c⟩, (by show (0 : Nat) < _; decide), (by show (0 : Nat) < _; decide), fun s hs => by cases hs⟩
    unfold encA
    rw [if_neg hn, if_neg ht, if_neg hx, if_neg hq, if_pos rfl]
    show some l = some (bytesT t ++ r)
    rw [← h, e2, e4, List.drop_left]
 ·unfold readA at h ⊢
  rw [if_neg hn, if_neg ht, if_neg hx, if_neg hq, if_neg hv] at h ⊢
  refine ⟨?_, ⟨fun c => absurd c hn, fun c => absurd c ht, fun c => absurd c hx, fun c => absurd c hq, fun c => absurd c hv⟩,
   ⟨fun _ => rfl, fun _ => rfl, fun _ => ⟨rfl, rfl, rfl⟩, fun _ => rfl, fun _ => rfl⟩, (by show (0 : Nat) < _; decide), (by show (0 : Nat) < _; decide), fun s hs => by cases hs⟩
  unfold encA
  rw [if_neg hn, if_neg ht, if_neg hx, if_neg hq, if_neg hv]
  exact h
def m_flagsD : List ArgP → Nat
  | [] => 0
  | a :: r => (if a.is = true then 1 else 0) + 2 * m_flagsD r
noncomputable def argsR : List UInt8 → Nat → St → List ArgP × Nat × St
  | [], fl, s => ([], fl, s)
  | k :: ks, fl, s => ({ (readA k.toNat s).1 with is := decide (fl % 2 = 1) } :: (argsR ks (fl / 2) (readA k.toNat s).2).1, (argsR ks (fl / 2) (readA k.toNat s).2).2)
def encArgs : List UInt8 → List ArgP → List UInt8
  | k :: ks, a :: us => encA k.toNat a ++ encArgs ks us
  | _, _ => []
def allV : List UInt8 → List ArgP → Prop
  | [], [] => True
  | k :: ks, a :: us => validA k.toNat a ∧ allV ks us
  | _, _ => False
theorem allV_len : ∀ {ks : List UInt8} {us : List ArgP}, allV ks us → us.length = ks.length
 | [], [], _ => rfl
 | k :: ks, a :: us, h => by simp [allV_len h.2]
theorem allV_iff : ∀ (ks : List UInt8) (us : List ArgP), allV ks us ↔ us.length = ks.length ∧ ∀ j (h : j < ks.length) (h' : j < us.length), validA ks[j].toNat us[j]
 | [], [] => by simp [allV]
 | [], a :: us => by simp [allV]
 | k :: ks, [] => by simp [allV]
 | k :: ks, a :: us => by
  simp only [allV, allV_iff ks us, List.length_cons]
  constructor
  ·rintro ⟨h1, h2, h3⟩
   refine ⟨by omega, fun j h h' => ?_⟩
   cases j with
   | zero => exact h1
   | succ j => exact h3 j (by omega) (by omega)
  ·rintro ⟨h1, h2⟩
   exact ⟨h2 0 (by omega) (by omega), by omega, fun j h h' => h2 (j + 1) (by omega) (by omega)⟩
theorem argsR_snoc : ∀ (ks : List UInt8) (k : UInt8) (fl : Nat) (s : St),
  argsR (ks ++ [k]) fl s = ((argsR ks fl s).1 ++ [{ (readA k.toNat (argsR ks fl s).2.2).1 with is := decide ((argsR ks fl s).2.1 % 2 = 1) }], (argsR ks fl s).2.1 / 2, (readA k.toNat (argsR ks fl s).2.2).2)
 | [], k, fl, s => rfl
 | x :: ks, k, fl, s => by
  simp only [List.cons_append, argsR]
  rw [argsR_snoc ks k]
  rfl
theorem argsR_flags : ∀ (ks : List UInt8) (fl : Nat) (s : St), fl = m_flagsD (argsR ks fl s).1 + 2 ^ ks.length * (argsR ks fl s).2.1
 | [], fl, s => by simp [argsR, m_flagsD]
 | k :: ks, fl, s => by
  have ih := argsR_flags ks (fl / 2) (readA k.toNat s).2
  simp only [argsR, m_flagsD, List.length_cons]
  generalize (argsR ks (fl / 2) (readA k.toNat s).2).1 = A at *
  generalize (argsR ks (fl / 2) (readA k.toNat s).2).2.1 = B at *
  have hm : (if decide (fl % 2 = 1) = true then 1 else 0) = fl % 2 := by
   by_cases h : fl % 2 = 1
   ·rw [if_pos (by simpa using h), h]
   ·rw [if_neg (by simpa using h)]; omega
  have e : (2 : Nat) ^ (ks.length + 1) * B = 2 * (2 ^ ks.length * B) := by rw [Nat.pow_succ]; rw [Nat.mul_comm (2 ^ ks.length) 2, Nat.mul_assoc]
  rw [hm, e]
  omega
theorem is_enc (k : Nat) (a : ArgP) (b : Bool) : encA k { a with is := b } = encA k a := rfl
theorem argsR_some : ∀ (ks : List UInt8) (fl : Nat) (s : St) (r : List UInt8), (argsR ks fl s).2.2 = some r → s = some (encArgs ks (argsR ks fl s).1 ++ r) ∧ ∀ a ∈ (argsR ks fl s).1, okA a
 | [], fl, s, r, h => by
  simp only [argsR] at h ⊢
  exact ⟨by simpa [encArgs] using h, fun a ha => by cases ha⟩
 | k :: ks, fl, s, r, h => by
  simp only [argsR] at h ⊢
  obtain ⟨h1, h2⟩ := argsR_some ks _ _ r h
  obtain ⟨e1, e2, e3, e4⟩ := readA_some k.toNat s _ h1
  refine ⟨?_, fun a ha => ?_⟩
  ·simp only [encArgs, is_enc]
   rw [List.append_assoc]
   exact e1
  ·rcases List.mem_cons.1 ha with rfl | ha
   ·exact e4
   ·exact h2 a ha
theorem argsR_enc : ∀ (ks : List UInt8) (us : List ArgP) (r : List UInt8), (∀ k ∈ ks, lett k.toNat) → allV ks us → (∀ a ∈ us, okA a) → argsR ks (m_flagsD us) (some (encArgs ks us ++ r)) = (us, 0, some r)
 | [], [], r, _, _, _ => rfl
 | k :: ks, a :: us, r, hk, hv, ho => by
  have h1 := readA_enc k.toNat a (encArgs ks us ++ r) (hk k (by simp)) hv.1.2.1 hv.1.2.2 (ho a (by simp))
  have e0 : m_flagsD (a :: us) / 2 = m_flagsD us := by simp only [m_flagsD]; split <;> omega
  have e1 : decide (m_flagsD (a :: us) % 2 = 1) = a.is := by
   have hv : m_flagsD (a :: us) % 2 = if a.is = true then 1 else 0 := by simp only [m_flagsD]; split <;> omega
   rw [hv]
   cases a.is <;> rfl
  have h2 := argsR_enc ks us r (fun x hx => hk x (by simp [hx])) hv.2 (fun x hx => ho x (by simp [hx]))
  simp only [argsR, encArgs, List.append_assoc]
  rw [h1, e0, e1, h2]
theorem m_flagsD_lt : ∀ us : List ArgP, m_flagsD us < 2 ^ us.length
 | [] => by simp [m_flagsD]
 | a :: r => by
  have := m_flagsD_lt r
  simp only [m_flagsD, List.length_cons, Nat.pow_succ]
  split <;> omega
structure MethP where
  cl : Nat
  co : Nat
  sy : Bool
  args : List ArgP
theorem kinds_ok {cl co : Nat} {ks : List UInt8} (h : kindsD cl co = some ks) : 1 ≤ cl ∧ cl < 9 ∧ co < 13 ∧ ks.length ≤ 3 ∧ ∀ k ∈ ks, lett k.toNat := by
 unfold kindsD at h
 cases hf : m_findD cl co with
 | none => rw [hf] at h; cases h
 | some s =>
  rw [hf] at h
  obtain ⟨h0, h1, h2, h3, h4⟩ := find_ok hf
  simp only [Option.map_some, Option.some.injEq] at h
  subst h
  obtain ⟨g1, g2, g3⟩ := shapes_ok cl h1 s h3
  exact ⟨h0, h1, h4, g1, g3⟩
def validM (m : MethP) : Prop := ∃ ks, kindsD m.cl m.co = some ks ∧ allV ks m.args ∧ (m.sy = true → 2 < m.cl)
def headM (m : MethP) : List UInt8 := [UInt8.ofNat m.cl, UInt8.ofNat m.co] ++ (if 2 < m.cl then [1, if m.sy = true then 1 else 0] else [])
def m_putM (m : MethP) : List UInt8 := headM m ++ (be 2 (m_flagsD m.args) ++ encArgs ((kindsD m.cl m.co).getD []) m.args)
def syncS (cl : Nat) (s : St) : Bool × St :=
  if 2 < cl then (decide ((numS 1 (numS 1 s).2).1 = 1), if (numS 1 s).1 = 1 ∧ (numS 1 (numS 1 s).2).1 ≤ 1 then (numS 1 (numS 1 s).2).2 else none) else (false, s)
noncomputable def readM (b : List UInt8) (ks : List UInt8) : MethP × Nat × St :=
  (⟨(b.getD 0 0).toNat, (b.getD 1 0).toNat, (syncS (b.getD 0 0).toNat (some (b.drop 2))).1, (argsR ks (numS 2 (syncS (b.getD 0 0).toNat (some (b.drop 2))).2).1 (numS 2 (syncS (b.getD 0 0).toNat (some (b.drop 2))).2).2).1⟩,
   (argsR ks (numS 2 (syncS (b.getD 0 0).toNat (some (b.drop 2))).2).1 (numS 2 (syncS (b.getD 0 0).toNat (some (b.drop 2))).2).2).2)
open Classical in
noncomputable def m_getM (b : List UInt8) : Option MethP :=
  if b.length < 2 then none
  else match kindsD (b.getD 0 0).toNat (b.getD 1 0).toNat with
    | none => none
    | some ks => if (readM b ks).2.1 = 0 ∧ (readM b ks).2.2 = some [] ∧ validM (readM b ks).1 then some (readM b ks).1 else none
def errM (b : List UInt8) : Nat := if b.length < 2 then 4 else if kindsD (b.getD 0 0).toNat (b.getD 1 0).toNat = none then 80 else 5
def okM (m : MethP) : Prop := m.cl < 256 ∧ m.co < 256 ∧ ∀ a ∈ m.args, okA a
theorem num1' : num 1 = true := by decide
theorem num2' : num 2 = true := by decide
theorem byte_of {b : UInt8} : UInt8.ofNat b.toNat = b := by simp
theorem be1_byte (n : Nat) : be 1 n = [UInt8.ofNat n] := by simp [be]
theorem b2 {b : List UInt8} (h : ¬ b.length < 2) : b = b.getD 0 0 :: b.getD 1 0 :: b.drop 2 := by
 match b, h with
 | x :: y :: r, _ => rfl
 | [], h => simp at h
 | [x], h => simp at h
theorem get_sound {b : List UInt8} {m : MethP} (h : m_getM b = some m) : validM m ∧ okM m ∧ m_putM m = b := by
 unfold m_getM at h
 split at h
 ·cases h
 ·rename_i hl
  split at h
  ·cases h
  ·rename_i ks hk
   split at h
   ·rename_i hc
    obtain ⟨h0, hr, hv⟩ := hc
    simp only [Option.some.injEq] at h
    subst h
    have hb := b2 hl
    generalize b.getD 0 0 = x at *
    generalize b.getD 1 0 = y at *
    have ex : (readM b ks).1.cl = (b.getD 0 0).toNat := rfl
    refine ⟨hv, ?_, ?_⟩
    ·refine ⟨UInt8.toNat_lt _, UInt8.toNat_lt _, ?_⟩
     exact (argsR_some ks _ _ [] hr).2
    ·have ha := (argsR_some ks _ _ [] hr).1
     have hfl := argsR_flags ks (numS 2 (syncS (b.getD 0 0).toNat (some (b.drop 2))).2).1 (numS 2 (syncS (b.getD 0 0).toNat (some (b.drop 2))).2).2
     have h0' : (argsR ks (numS 2 (syncS (b.getD 0 0).toNat (some (b.drop 2))).2).1 (numS 2 (syncS (b.getD 0 0).toNat (some (b.drop 2))).2).2).2.1 = 0 := h0
     rw [h0', Nat.mul_zero, Nat.add_zero] at hfl
     have hn := numS_some (k := 2) num2' ha
     have exx : b.getD 0 0 = x := by rw [hb]; rfl
     have eyy : b.getD 1 0 = y := by rw [hb]; rfl
     unfold m_putM headM
     show [UInt8.ofNat (b.getD 0 0).toNat, UInt8.ofNat (b.getD 1 0).toNat] ++ (if 2 < (b.getD 0 0).toNat then [1, if (syncS (b.getD 0 0).toNat (some (b.drop 2))).1 = true then 1 else 0] else []) ++
      (be 2 (m_flagsD (argsR ks _ _).1) ++ encArgs ((kindsD (b.getD 0 0).toNat (b.getD 1 0).toNat).getD []) (argsR ks _ _).1) = b
     rw [← hfl, exx, eyy, hk, byte_of, byte_of]
     rw [exx] at hn
     have hd : (if 2 < x.toNat then [1, if (syncS x.toNat (some (b.drop 2))).1 = true then (1 : UInt8) else 0] else []) ++ (be 2 (numS 2 (syncS x.toNat (some (b.drop 2))).2).1 ++ encArgs ks (argsR ks (numS 2 (syncS x.toNat (some (b.drop 2))).2).1 (numS 2 (syncS x.toNat (some (b.drop 2))).2).2).1) = b.drop 2 := by
      have hn' : (syncS x.toNat (some (b.drop 2))).2 = some (be 2 (numS 2 (syncS x.toNat (some (b.drop 2))).2).1 ++ encArgs ks (argsR ks (numS 2 (syncS x.toNat (some (b.drop 2))).2).1 (numS 2 (syncS x.toNat (some (b.drop 2))).2).2).1) := by
       simpa using hn
      generalize (be 2 (numS 2 (syncS x.toNat (some (b.drop 2))).2).1 ++ encArgs ks (argsR ks (numS 2 (syncS x.toNat (some (b.drop 2))).2).1 (numS 2 (syncS x.toNat (some (b.drop 2))).2).2).1) = R at *
      unfold syncS at hn' ⊢
      by_cases hx : 2 < x.toNat
      ·rw [if_pos hx] at hn' ⊢
       simp only [if_pos hx] at hn' ⊢
       split at hn'
       ·rename_i hs
        have g2 := numS_some (k := 1) num1' hn'
        have g1 := numS_some (k := 1) num1' g2
        have g1' : b.drop 2 = be 1 (numS 1 (some (b.drop 2))).1 ++ (be 1 (numS 1 (numS 1 (some (b.drop 2))).2).1 ++ R) := by simpa using g1
        obtain ⟨s1, s2⟩ := hs
        generalize (numS 1 (numS 1 (some (b.drop 2))).2).1 = z at *
        rw [s1] at g1'
        rw [g1', be1_byte, be1_byte]
        rcases (show z = 0 ∨ z = 1 by omega) with rfl | rfl <;> rfl
       ·cases hn'
      ·rw [if_neg hx] at hn' ⊢
       simp only [if_neg hx] at hn' ⊢
       simp only [Option.some.injEq] at hn'
       rw [hn']
       rfl
     refine Eq.trans ?_ hb.symm
     rw [List.append_assoc]
     exact congrArg (fun r => x :: y :: r) hd
   ·cases h
theorem sync_put (cl : Nat) (sy : Bool) (r : List UInt8) (h : sy = true → 2 < cl) : syncS cl (some ((if 2 < cl then [1, if sy = true then (1 : UInt8) else 0] else []) ++ r)) = (sy, some r) := by
 unfold syncS
 by_cases hc : 2 < cl
 ·rw [if_pos hc, if_pos hc]
  have e1 : numS 1 (some ((1 : UInt8) :: (if sy = true then (1 : UInt8) else 0) :: r)) = (1, some ((if sy = true then (1 : UInt8) else 0) :: r)) := numS_be 1 1 _ num1' (by decide)
  have e2 : numS 1 (some ((if sy = true then (1 : UInt8) else 0) :: r)) = (if sy = true then 1 else 0, some r) := by
   cases sy
   ·exact numS_be 1 0 _ num1' (by decide)
   ·exact numS_be 1 1 _ num1' (by decide)
  show (decide ((numS 1 (numS 1 (some (1 :: (if sy = true then (1 : UInt8) else 0) :: r))).2).1 = 1), _) = _
  simp only [List.cons_append, List.nil_append, e1, e2]
  cases sy <;> simp
 ·rw [if_neg hc, if_neg hc]
  have : sy = false := by cases sy; rfl; exact absurd (h rfl) hc
  subst this
  rfl
theorem get_back {m : MethP} (hv : validM m) (ho : okM m) : m_getM (m_putM m) = some m := by
 obtain ⟨ks, hk, ha, hs⟩ := hv
 obtain ⟨o1, o2, o3⟩ := ho
 obtain ⟨k1, k2, k3, k4, k5⟩ := kinds_ok hk
 have hlen := allV_len ha
 have hfl := m_flagsD_lt m.args
 have hp8 : 2 ^ m.args.length ≤ 2 ^ 3 := Nat.pow_le_pow_right (by omega) (by omega)
 have e0 : (m_putM m).getD 0 0 = UInt8.ofNat m.cl := rfl
 have e1 : (m_putM m).getD 1 0 = UInt8.ofNat m.co := rfl
 have c0 : (UInt8.ofNat m.cl).toNat = m.cl := by simp; omega
 have c1 : (UInt8.ofNat m.co).toNat = m.co := by simp; omega
 have ed : (m_putM m).drop 2 = (if 2 < m.cl then [1, if m.sy = true then (1 : UInt8) else 0] else []) ++ (be 2 (m_flagsD m.args) ++ encArgs ks m.args) := by
  unfold m_putM headM
  rw [hk]
  rfl
 have es := sync_put m.cl m.sy (be 2 (m_flagsD m.args) ++ encArgs ks m.args) hs
 have en : numS 2 (some (be 2 (m_flagsD m.args) ++ encArgs ks m.args)) = (m_flagsD m.args, some (encArgs ks m.args)) := numS_be 2 _ _ num2' (by omega)
 have ea := argsR_enc ks m.args [] k5 ha o3
 rw [List.append_nil] at ea
 have er : readM (m_putM m) ks = (m, 0, some []) := by
  unfold readM
  rw [e0, e1, c0, c1, ed, es]
  simp only [en, ea]
 unfold m_getM
 rw [if_neg (by unfold m_putM headM; simp), e0, e1, c0, c1, hk]
 have hc : (readM (m_putM m) ks).2.1 = 0 ∧ (readM (m_putM m) ks).2.2 = some [] ∧ validM (readM (m_putM m) ks).1 := by rw [er]; exact ⟨rfl, rfl, ks, hk, ha, hs⟩
 simp only []
 rw [if_pos hc, er]
end Go.Proofs.YtpbdnfonflmncaaGreat
namespace Go.Proofs.YtpbdnfonflmncaaGreat
open Go.RowKit
structure RowT where
  cl : Nat
  co : Nat
  name : ByteArray
  kinds : ByteArray
deriving DecidableEq
def rowC : Code RowT := { enc := fun s => [.int .u8 s.cl, .int .u8 s.co, .string s.name, .string s.kinds], sz := 4, len := fun _ => rfl, one := fun x u hu => by simp at hu; rcases hu with rfl | rfl | rfl | rfl <;> rfl, pos := by omega }
def tabD : List RowT := [⟨1, 1, ⟨#[99, 111, 110, 110, 101, 99, 116, 105, 111, 110, 46, 115, 116, 97, 114, 116]⟩, ⟨#[116]⟩⟩, ⟨1, 2, ⟨#[99, 111, 110, 110, 101, 99, 116, 105, 111, 110, 46, 115, 116, 97, 114, 116, 45, 111, 107]⟩, ⟨#[116]⟩⟩, ⟨1, 5, ⟨#[99, 111, 110, 110, 101, 99, 116, 105, 111, 110, 46, 116, 117, 110, 101]⟩, ⟨#[119, 119]⟩⟩, ⟨1, 6, ⟨#[99, 111, 110, 110, 101, 99, 116, 105, 111, 110, 46, 116, 117, 110, 101, 45, 111, 107]⟩, ⟨#[119, 119]⟩⟩, ⟨1, 7, ⟨#[99, 111, 110, 110, 101, 99, 116, 105, 111, 110, 46, 111, 112, 101, 110]⟩, ⟨#[115]⟩⟩, ⟨1, 8, ⟨#[99, 111, 110, 110, 101, 99, 116, 105, 111, 110, 46, 111, 112, 101, 110, 45, 111, 107]⟩, ⟨#[]⟩⟩, ⟨1, 11, ⟨#[99, 111, 110, 110, 101, 99, 116, 105, 111, 110, 46, 99, 108, 111, 115, 101]⟩, ⟨#[119, 115]⟩⟩, ⟨1, 12, ⟨#[99, 111, 110, 110, 101, 99, 116, 105, 111, 110, 46, 99, 108, 111, 115, 101, 45, 111, 107]⟩, ⟨#[]⟩⟩, ⟨2, 1, ⟨#[115, 101, 115, 115, 105, 111, 110, 46, 97, 116, 116, 97, 99, 104]⟩, ⟨#[116, 98]⟩⟩, ⟨2, 2, ⟨#[115, 101, 115, 115, 105, 111, 110, 46, 97, 116, 116, 97, 99, 104, 101, 100]⟩, ⟨#[116]⟩⟩, ⟨2, 3, ⟨#[115, 101, 115, 115, 105, 111, 110, 46, 100, 101, 116, 97, 99, 104]⟩, ⟨#[116]⟩⟩, ⟨2, 4, ⟨#[115, 101, 115, 115, 105, 111, 110, 46, 100, 101, 116, 97, 99, 104, 101, 100]⟩, ⟨#[116, 110]⟩⟩, ⟨2, 7, ⟨#[115, 101, 115, 115, 105, 111, 110, 46, 112, 111, 105, 110, 116]⟩, ⟨#[100]⟩⟩, ⟨2, 10, ⟨#[115, 101, 115, 115, 105, 111, 110, 46, 99, 111, 109, 112, 108, 101, 116, 101, 100]⟩, ⟨#[114]⟩⟩, ⟨2, 11, ⟨#[115, 101, 115, 115, 105, 111, 110, 46, 107, 110, 111, 119, 110]⟩, ⟨#[114]⟩⟩, ⟨2, 12, ⟨#[115, 101, 115, 115, 105, 111, 110, 46, 102, 108, 117, 115, 104]⟩, ⟨#[]⟩⟩, ⟨3, 1, ⟨#[101, 120, 101, 99, 117, 116, 105, 111, 110, 46, 115, 121, 110, 99]⟩, ⟨#[]⟩⟩, ⟨3, 2, ⟨#[101, 120, 101, 99, 117, 116, 105, 111, 110, 46, 114, 101, 115, 117, 108, 116]⟩, ⟨#[100, 118]⟩⟩, ⟨3, 3, ⟨#[101, 120, 101, 99, 117, 116, 105, 111, 110, 46, 101, 120, 99, 101, 112, 116, 105, 111, 110]⟩, ⟨#[119, 100, 116]⟩⟩, ⟨4, 1, ⟨#[109, 101, 115, 115, 97, 103, 101, 46, 116, 114, 97, 110, 115, 102, 101, 114]⟩, ⟨#[115, 110]⟩⟩, ⟨4, 2, ⟨#[109, 101, 115, 115, 97, 103, 101, 46, 97, 99, 99, 101, 112, 116]⟩, ⟨#[114]⟩⟩, ⟨4, 3, ⟨#[109, 101, 115, 115, 97, 103, 101, 46, 114, 101, 106, 101, 99, 116]⟩, ⟨#[114, 119, 115]⟩⟩, ⟨4, 4, ⟨#[109, 101, 115, 115, 97, 103, 101, 46, 114, 101, 108, 101, 97, 115, 101]⟩, ⟨#[114, 98]⟩⟩, ⟨4, 7, ⟨#[109, 101, 115, 115, 97, 103, 101, 46, 115, 117, 98, 115, 99, 114, 105, 98, 101]⟩, ⟨#[115, 115]⟩⟩, ⟨4, 8, ⟨#[109, 101, 115, 115, 97, 103, 101, 46, 99, 97, 110, 99, 101, 108]⟩, ⟨#[115]⟩⟩, ⟨4, 10, ⟨#[109, 101, 115, 115, 97, 103, 101, 46, 102, 108, 111, 119]⟩, ⟨#[115, 100]⟩⟩, ⟨4, 12, ⟨#[109, 101, 115, 115, 97, 103, 101, 46, 115, 116, 111, 112]⟩, ⟨#[115]⟩⟩, ⟨5, 1, ⟨#[116, 120, 46, 115, 101, 108, 101, 99, 116]⟩, ⟨#[]⟩⟩, ⟨5, 2, ⟨#[116, 120, 46, 99, 111, 109, 109, 105, 116]⟩, ⟨#[]⟩⟩, ⟨5, 3, ⟨#[116, 120, 46, 114, 111, 108, 108, 98, 97, 99, 107]⟩, ⟨#[]⟩⟩, ⟨6, 1, ⟨#[100, 116, 120, 46, 115, 101, 108, 101, 99, 116]⟩, ⟨#[]⟩⟩, ⟨6, 2, ⟨#[100, 116, 120, 46, 115, 116, 97, 114, 116]⟩, ⟨#[120, 98, 98]⟩⟩, ⟨6, 3, ⟨#[100, 116, 120, 46, 101, 110, 100]⟩, ⟨#[120, 98, 98]⟩⟩, ⟨6, 4, ⟨#[100, 116, 120, 46, 99, 111, 109, 109, 105, 116]⟩, ⟨#[120, 98]⟩⟩, ⟨6, 5, ⟨#[100, 116, 120, 46, 102, 111, 114, 103, 101, 116]⟩, ⟨#[120]⟩⟩, ⟨6, 6, ⟨#[100, 116, 120, 46, 103, 101, 116, 45, 116, 105, 109, 101, 111, 117, 116]⟩, ⟨#[120]⟩⟩, ⟨6, 7, ⟨#[100, 116, 120, 46, 112, 114, 101, 112, 97, 114, 101]⟩, ⟨#[120]⟩⟩, ⟨6, 8, ⟨#[100, 116, 120, 46, 114, 101, 99, 111, 118, 101, 114]⟩, ⟨#[]⟩⟩, ⟨6, 9, ⟨#[100, 116, 120, 46, 114, 111, 108, 108, 98, 97, 99, 107]⟩, ⟨#[120]⟩⟩, ⟨6, 10, ⟨#[100, 116, 120, 46, 115, 101, 116, 45, 116, 105, 109, 101, 111, 117, 116]⟩, ⟨#[120, 100]⟩⟩, ⟨8, 1, ⟨#[113, 117, 101, 117, 101, 46, 100, 101, 99, 108, 97, 114, 101]⟩, ⟨#[115, 98, 100]⟩⟩, ⟨8, 2, ⟨#[113, 117, 101, 117, 101, 46, 100, 101, 108, 101, 116, 101]⟩, ⟨#[115, 98]⟩⟩, ⟨8, 3, ⟨#[113, 117, 101, 117, 101, 46, 112, 117, 114, 103, 101]⟩, ⟨#[115]⟩⟩, ⟨8, 4, ⟨#[113, 117, 101, 117, 101, 46, 113, 117, 101, 114, 121]⟩, ⟨#[115]⟩⟩]
def rowOf (cl co : Nat) (s : Shape) : RowT := ⟨cl, co, nameD cl s, s.kinds⟩
theorem row_cell {w : World} {d o : Nat} {l : List RowT} (h : ∀ j (h : j < l.length) k, k < rowC.sz → w.cell? ⟨d, o + (j * rowC.sz + k), none⟩ = (rowC.enc l[j])[k]?) {k : Nat} (hk : k < l.length) :
  w.cell? ⟨d, o + k * 4, none⟩ = some (.int .u8 l[k].cl) ∧ w.cell? ⟨d, o + k * 4 + 1, none⟩ = some (.int .u8 l[k].co) ∧ w.cell? ⟨d, o + k * 4 + 2, none⟩ = some (.string l[k].name) ∧ w.cell? ⟨d, o + k * 4 + 3, none⟩ = some (.string l[k].kinds) :=
 ⟨h k hk 0 (by decide), h k hk 1 (by decide), h k hk 2 (by decide), h k hk 3 (by decide)⟩
theorem tab_len : tabD.length = 44 := by decide
theorem tab_allB : (tabD.all fun r => decide (r.cl < 9) && decide (r.co < 13)) = true := by decide +kernel
theorem tab_findB : ((List.range 9).all fun cl => (List.range 13).all fun co => decide (tabD.find? (fun r => r.cl == cl && r.co == co) = (m_findD cl co).map (rowOf cl co))) = true := by decide +kernel
theorem tab_find (cl co : Nat) : tabD.find? (fun r => r.cl == cl && r.co == co) = (m_findD cl co).map (rowOf cl co) := by
  by_cases h1 : cl < 9 ∧ co < 13
  · have h2 := List.all_eq_true.1 (List.all_eq_true.1 tab_findB cl (List.mem_range.2 h1.1)) co (List.mem_range.2 h1.2)
    exact of_decide_eq_true h2
  · have hn : m_findD cl co = none := by
      cases hf : m_findD cl co with
      | none => rfl
      | some s => exact absurd ⟨(find_ok hf).2.1, (find_ok hf).2.2.2.2⟩ h1
    rw [hn, Option.map_none, List.find?_eq_none]
    intro r hr hx
    have h2 := List.all_eq_true.1 tab_allB r hr
    simp only [Bool.and_eq_true, decide_eq_true_eq, beq_iff_eq] at h2 hx
    omega
theorem wp_build65 {P : Program} {o : Oper} {a : Act} {w : World} {K : Act → World → Prop} {Q : Exit → Act → World → Prop} (t e : TypeId) (len : Nat) (parts : Array (Nat × Operand)) (ho : o.op = .buildSlice t len parts)
  (cells : Array Value) (z : Value)
  (hu : P.underlying t = some (.slice e)) (hsz : (P.info? e).map (·.size) = some 4) (hz : (P.info? e).bind (·.zero) = some z) (hsmall : ¬ len * 4 > 2 ^ 24) (hpos : ¬ len * 4 = 0)
  (hf : Instr.fill (fun i => some (i * 4, 4)) ((Array.range (len * 4)).map (z.cells[· % z.cells.size]!)) (parts.map fun (i, x) => (i, a.eval x)).toList = some cells)
  (h : K (a.put o.dst (.slice (some ⟨w.heap.size, 0, none⟩) len len)) (w.alloc (.cells cells e))) : o.wp P a w K Q := by
 cases hie : P.info? e with
 | none => simp [hie] at hsz
 | some ie =>
  simp only [hie, Option.map_some, Option.some.injEq, Option.bind_some] at hsz hz
  refine wp_buildSlice t e len parts ho cells ie z hu hie hz (by rw [hsz]; exact hsmall) (by rw [hsz]; exact hpos) ?_ h
  rw [hsz]
  exact hf
end Go.Proofs.YtpbdnfonflmncaaGreat
