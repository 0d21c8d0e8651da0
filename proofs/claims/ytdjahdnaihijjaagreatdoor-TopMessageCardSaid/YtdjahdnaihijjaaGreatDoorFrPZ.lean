/-
  Texts, together: FrP, FrL.
  Conditions: none but sizes.
-/
import Derived.Test.YtdjahdnaihijjaaGreatDoorFrDZ
/-
  Without the program: what scanning tells.
  Conditions: none.
-/
namespace Go.Proofs.YtdjahdnaihijjaaGreatDoor
open Go.RowKit
set_option linter.unusedVariables false
set_option linter.unusedSimpArgs false

/-- Is there a frame with whose bytes these begin? -/
def isOne (l : List UInt8) : Bool := decide (12 ≤ l.length) && wellD l && decide (sizeAt l ≤ l.length)
def oneF (l : List UInt8) : Fr := if isOne l = true then decD (l.take (sizeAt l)) else zF
def oneN (l : List UInt8) : Nat := if isOne l = true then sizeAt l else 0
theorem isOne_iff (l : List UInt8) : isOne l = true ↔ 12 ≤ l.length ∧ wellD l = true ∧ sizeAt l ≤ l.length := by
  unfold isOne
  simp [and_assoc]
theorem isOne_well {l : List UInt8} (h : wellD l = false) : isOne l = false := by
  unfold isOne
  rw [h]
  simp
theorem sizeAt_lt (l : List UInt8) : sizeAt l < 65536 := by
  have := byteAt_lt l 2
  have := byteAt_lt l 3
  unfold sizeAt
  omega
theorem well_size {l : List UInt8} (h : wellD l = true) (h4 : 4 ≤ l.length) : 12 ≤ sizeAt l ∧ sizeAt l ≤ 4096 := by
  have := (wellD_iff l).1 h 3 (by omega) (by decide)
  unfold okAt at this
  rw [if_pos rfl] at this
  simpa using this
theorem one_size {l : List UInt8} (h : isOne l = true) : 12 ≤ sizeAt l ∧ sizeAt l ≤ 4096 ∧ sizeAt l ≤ l.length := by
  obtain ⟨h1, h2, h3⟩ := (isOne_iff l).1 h
  obtain ⟨h4, h5⟩ := well_size h2 (by omega)
  exact ⟨h4, h5, h3⟩
theorem byteAt_take (l : List UInt8) (n i : Nat) (h : i < n) : byteAt (l.take n) i = byteAt l i := by
  unfold byteAt
  simp [List.getD, List.getElem?_take, h]

/-- The frames that stand one behind the other, and how many bytes they take. -/
def scanF : Nat → List UInt8 → List Fr × Nat
  | 0, _ => ([], 0)
  | n + 1, l => if isOne l = true then (oneF l :: (scanF n (l.drop (sizeAt l))).1, sizeAt l + (scanF n (l.drop (sizeAt l))).2) else ([], 0)
def scanD (l : List UInt8) : List Fr × Nat := scanF l.length l
def errD (l : List UInt8) : Nat := if wellD (l.drop (scanD l).2) = true then 0 else 60
theorem isOne_nil : isOne [] = false := by decide
theorem scanF_fuel : ∀ (n m : Nat) (l : List UInt8), l.length ≤ n → l.length ≤ m → scanF n l = scanF m l
  | 0, 0, _, _, _ => rfl
  | 0, m + 1, l, h, _ => by
    have : l = [] := List.eq_nil_of_length_eq_zero (by omega)
    subst this
    simp [scanF, isOne_nil]
  | n + 1, 0, l, _, h => by
    have : l = [] := List.eq_nil_of_length_eq_zero (by omega)
    subst this
    simp [scanF, isOne_nil]
  | n + 1, m + 1, l, h1, h2 => by
    unfold scanF
    by_cases h : isOne l = true
    · obtain ⟨a, b, c⟩ := one_size h
      rw [if_pos h, if_pos h, scanF_fuel n m _ (by rw [List.length_drop]; omega) (by rw [List.length_drop]; omega)]
    · rw [if_neg h, if_neg h]
theorem scanD_no {l : List UInt8} (h : isOne l = false) : scanD l = ([], 0) := by
  unfold scanD
  cases hl : l.length with
  | zero => rfl
  | succ n => unfold scanF; rw [if_neg (by rw [h]; simp)]
theorem scanD_one {l : List UInt8} (h : isOne l = true) : scanD l = (oneF l :: (scanD (l.drop (sizeAt l))).1, sizeAt l + (scanD (l.drop (sizeAt l))).2) := by
  obtain ⟨a, b, c⟩ := one_size h
  unfold scanD
  obtain ⟨n, hn⟩ : ∃ n, l.length = n + 1 := ⟨l.length - 1, by omega⟩
  rw [hn]
  conv => lhs; unfold scanF
  rw [if_pos h, scanF_fuel n (l.drop (sizeAt l)).length _ (by rw [List.length_drop]; omega) (Nat.le_refl _)]

/-- In the midst of scanning: k frames have been told, they took 'at' bytes. -/
def Mid (l : List UInt8) (fs : List Fr) (at_ : Nat) : Prop := at_ ≤ l.length ∧ 12 * fs.length ≤ at_ ∧ scanD l = (fs ++ (scanD (l.drop at_)).1, at_ + (scanD (l.drop at_)).2)
theorem Mid.start (l : List UInt8) : Mid l [] 0 := ⟨Nat.zero_le _, Nat.le_refl _, by simp⟩
theorem Mid.step {l : List UInt8} {fs : List Fr} {at_ : Nat} (h : Mid l fs at_) (h1 : isOne (l.drop at_) = true) : Mid l (fs ++ [oneF (l.drop at_)]) (at_ + sizeAt (l.drop at_)) := by
  obtain ⟨a, b, c⟩ := one_size h1
  obtain ⟨d, e, f⟩ := h
  rw [List.length_drop] at c
  refine ⟨by omega, by simp; omega, ?_⟩
  rw [f, scanD_one h1, List.drop_drop]
  simp [Nat.add_assoc]
theorem Mid.last {l : List UInt8} {fs : List Fr} {at_ : Nat} (h : Mid l fs at_) (h1 : isOne (l.drop at_) = false) : scanD l = (fs, at_) := by
  rw [h.2.2, scanD_no h1]
  simp
theorem Mid.err {l : List UInt8} {fs : List Fr} {at_ : Nat} (h : Mid l fs at_) (h1 : isOne (l.drop at_) = false) : errD l = if wellD (l.drop at_) = true then 0 else 60 := by
  unfold errD
  rw [h.last h1]

end Go.Proofs.YtdjahdnaihijjaaGreatDoor
/-
  Without the program: frames' bytes are scanned as these frames; what is scanned is put as the bytes; pieces.
  Conditions: none.
-/
namespace Go.Proofs.YtdjahdnaihijjaaGreatDoor
open Go.RowKit
set_option linter.unusedVariables false
set_option linter.unusedSimpArgs false

/-- May be put. -/
def Fr.may (f : Fr) : Prop := f.ok ∧ checkF f = 0
theorem Fr.may_le {f : Fr} (h : f.may) : f.t ≤ 3 ∧ f.k ≤ 15 ∧ f.p.size ≤ 4084 ∧ f.ch < 65536 := by
  obtain ⟨⟨_, _, h3, _⟩, h⟩ := h
  unfold checkF at h
  split at h
  · cases h
  · omega

/-! ### the bytes of a frame's head -/
theorem be_two (n : Nat) : be 2 n = [UInt8.ofNat (n / 256), UInt8.ofNat n] := rfl
theorem enc_cons (f : Fr) (r : List UInt8) : encF f ++ r = UInt8.ofNat (flagsD f) :: UInt8.ofNat f.t :: UInt8.ofNat ((12 + f.p.size) / 256) :: UInt8.ofNat (12 + f.p.size) :: UInt8.ofNat 0 :: UInt8.ofNat f.k :: UInt8.ofNat (f.ch / 256) :: UInt8.ofNat f.ch :: UInt8.ofNat 0 :: UInt8.ofNat 0 :: UInt8.ofNat 0 :: UInt8.ofNat 0 :: (sb f.p ++ r) := by
  simp [encF, f_headB, be]
theorem enc_bytes (f : Fr) (h : f.may) (r : List UInt8) : byteAt (encF f ++ r) 0 = flagsD f ∧ byteAt (encF f ++ r) 1 = f.t ∧ byteAt (encF f ++ r) 2 = (12 + f.p.size) / 256 ∧ byteAt (encF f ++ r) 3 = (12 + f.p.size) % 256 ∧
    byteAt (encF f ++ r) 4 = 0 ∧ byteAt (encF f ++ r) 5 = f.k ∧ byteAt (encF f ++ r) 6 = f.ch / 256 ∧ byteAt (encF f ++ r) 7 = f.ch % 256 ∧ byteAt (encF f ++ r) 8 = 0 ∧ byteAt (encF f ++ r) 9 = 0 ∧ byteAt (encF f ++ r) 10 = 0 ∧ byteAt (encF f ++ r) 11 = 0 := by
  obtain ⟨h1, h2, h3, h4⟩ := Fr.may_le h
  have h5 := flagsD_lt f
  rw [enc_cons]
  generalize flagsD f = fl at *
  have tn : ∀ n : Nat, (UInt8.ofNat n).toNat = n % 256 := fun n => UInt8.toNat_ofNat'
  exact ⟨(tn fl).trans (by omega), (tn f.t).trans (by omega), (tn ((12 + f.p.size) / 256)).trans (by omega), (tn (12 + f.p.size)).trans (by omega), (tn 0).trans (by omega), (tn f.k).trans (by omega), (tn (f.ch / 256)).trans (by omega), (tn f.ch).trans (by omega), (tn 0).trans (by omega), (tn 0).trans (by omega), (tn 0).trans (by omega), (tn 0).trans (by omega)⟩
theorem enc_size (f : Fr) (h : f.may) (r : List UInt8) : sizeAt (encF f ++ r) = 12 + f.p.size := by
  obtain ⟨_, _, h2, h3, _⟩ := enc_bytes f h r
  unfold sizeAt
  rw [h2, h3]
  omega
theorem enc_well (f : Fr) (h : f.may) (r : List UInt8) : wellD (encF f ++ r) = true := by
  obtain ⟨m1, m2, m3, m4⟩ := Fr.may_le h
  obtain ⟨a0, a1, a2, a3, a4, a5, a6, a7, a8, a9, a10, a11⟩ := enc_bytes f h r
  have hs := enc_size f h r
  have hf := flagsD_lt f
  rw [wellD_iff]
  intro i _ hi
  unfold okAt
  split
  · rw [hs]; simp; omega
  · rw [decide_eq_true_eq]
    rcases (show i = 0 ∨ i = 1 ∨ i = 2 ∨ i = 4 ∨ i = 5 ∨ i = 6 ∨ i = 7 ∨ i = 8 ∨ i = 9 ∨ i = 10 ∨ i = 11 by omega) with rfl | rfl | rfl | rfl | rfl | rfl | rfl | rfl | rfl | rfl | rfl
    all_goals
      simp only [mostAt]
      omega
theorem enc_one (f : Fr) (h : f.may) (r : List UInt8) : isOne (encF f ++ r) = true := by
  rw [isOne_iff, enc_size f h r]
  refine ⟨?_, enc_well f h r, ?_⟩
  · rw [List.length_append, encF_length]; omega
  · rw [List.length_append, encF_length]; omega
theorem flags_back : ∀ (a b c d : Bool), (let x := flagsD ⟨a, b, c, d, 0, 0, 0, ⟨#[]⟩⟩; ((x / 8 % 2 == 1) = a ∧ (x / 4 % 2 == 1) = b ∧ (x / 2 % 2 == 1) = c ∧ (x % 2 == 1) = d)) := by decide
theorem flags_of : ∀ x : Nat, x < 16 → flagsD ⟨x / 8 % 2 == 1, x / 4 % 2 == 1, x / 2 % 2 == 1, x % 2 == 1, 0, 0, 0, ⟨#[]⟩⟩ = x := by decide
theorem enc_frame (f : Fr) (h : f.may) (r : List UInt8) : oneF (encF f ++ r) = f := by
  have h1 := enc_one f h r
  obtain ⟨m1, m2, m3, m4⟩ := Fr.may_le h
  have hs := enc_size f h r
  unfold oneF
  rw [if_pos h1, hs, List.take_append, List.take_of_length_le (by rw [encF_length]; omega), encF_length, Nat.sub_self, List.take_zero]
  obtain ⟨a0, a1, a2, a3, a4, a5, a6, a7, _⟩ := enc_bytes f h []
  unfold decD
  rw [a0, a1, a5, a6, a7]
  have hd : (encF f ++ []).drop 12 = sb f.p := by rw [enc_cons]; simp
  rw [hd, str8_sb]
  obtain ⟨fa, fb, fc, fd, ft, fk, fch, fp⟩ := f
  obtain ⟨x1, x2, x3, x4⟩ := flags_back fa fb fc fd
  have e : flagsD ⟨fa, fb, fc, fd, ft, fk, fch, fp⟩ = flagsD ⟨fa, fb, fc, fd, 0, 0, 0, ⟨#[]⟩⟩ := rfl
  rw [e, x1, x2, x3, x4]
  simp only [Fr.mk.injEq, true_and, and_true]
  simp only [] at m4
  omega

/-! ### beginnings and ends -/
theorem byteAt_app (l q : List UInt8) (i : Nat) (h : i < l.length) : byteAt (l ++ q) i = byteAt l i := by
  unfold byteAt
  simp [List.getD, List.getElem?_append_left h]
theorem okAt_app (l q : List UInt8) (i : Nat) (h : i < l.length) : okAt (l ++ q) i = okAt l i := by
  unfold okAt
  split
  · unfold sizeAt
    rw [byteAt_app l q 2 (by omega), byteAt_app l q 3 (by omega)]
  · rw [byteAt_app l q i h]
theorem well_front {l q : List UInt8} (h : wellD (l ++ q) = true) : wellD l = true := by
  rw [wellD_iff] at h ⊢
  intro i h1 h2
  rw [← okAt_app l q i h1]
  exact h i (by simp; omega) h2
theorem well_bad {l : List UInt8} (h : wellD l = false) (q : List UInt8) : wellD (l ++ q) = false := by
  cases hw : wellD (l ++ q) with
  | false => rfl
  | true => rw [well_front hw] at h; cases h
theorem well_app {l : List UInt8} (h : wellD l = true) (h12 : 12 ≤ l.length) (q : List UInt8) : wellD (l ++ q) = true := by
  rw [wellD_iff] at h ⊢
  intro i h1 h2
  rw [okAt_app l q i (by omega)]
  exact h i (by omega) h2
theorem one_app {l : List UInt8} (h : isOne l = true) (q : List UInt8) : isOne (l ++ q) = true ∧ sizeAt (l ++ q) = sizeAt l ∧ oneF (l ++ q) = oneF l := by
  obtain ⟨h1, h2, h3⟩ := (isOne_iff l).1 h
  have hs : sizeAt (l ++ q) = sizeAt l := by
    unfold sizeAt
    rw [byteAt_app l q 2 (by omega), byteAt_app l q 3 (by omega)]
  have h4 : isOne (l ++ q) = true := by
    rw [isOne_iff, hs]
    exact ⟨by simp; omega, well_app h2 h1 q, by simp; omega⟩
  refine ⟨h4, hs, ?_⟩
  unfold oneF
  rw [if_pos h4, if_pos h, hs, List.take_append_of_le_length h3]

/-- More bytes: what was told stays, and the rest is scanned with them. -/
theorem scan_more : ∀ (n : Nat) (l q : List UInt8), l.length ≤ n → scanD (l ++ q) = ((scanD l).1 ++ (scanD (l.drop (scanD l).2 ++ q)).1, (scanD l).2 + (scanD (l.drop (scanD l).2 ++ q)).2) ∧ (scanD l).2 ≤ l.length
  | 0, l, q, h => by
    have : l = [] := List.eq_nil_of_length_eq_zero (by omega)
    subst this
    rw [scanD_no isOne_nil]
    simp
  | n + 1, l, q, h => by
    cases hone : isOne l with
    | false =>
      rw [scanD_no hone]
      simp
    | true =>
      obtain ⟨a, b, c⟩ := one_size hone
      obtain ⟨d, e, f⟩ := one_app hone q
      obtain ⟨ih, ihl⟩ := scan_more n (l.drop (sizeAt l)) q (by rw [List.length_drop]; omega)
      rw [List.length_drop] at ihl
      rw [scanD_one d, e, f, List.drop_append_of_le_length c, ih, scanD_one hone]
      simp only [List.drop_drop]
      refine ⟨?_, by omega⟩
      rw [List.cons_append, Nat.add_assoc]
theorem scan_more' (l q : List UInt8) : scanD (l ++ q) = ((scanD l).1 ++ (scanD (l.drop (scanD l).2 ++ q)).1, (scanD l).2 + (scanD (l.drop (scanD l).2 ++ q)).2) := (scan_more _ l q (Nat.le_refl _)).1
theorem scan_le (l : List UInt8) : (scanD l).2 ≤ l.length := (scan_more _ l [] (Nat.le_refl _)).2
/-- Behind the last frame there is none. -/
theorem scan_rest : ∀ (n : Nat) (l : List UInt8), l.length ≤ n → isOne (l.drop (scanD l).2) = false
  | 0, l, h => by
    have : l = [] := List.eq_nil_of_length_eq_zero (by omega)
    subst this
    rfl
  | n + 1, l, h => by
    cases hone : isOne l with
    | false => rw [scanD_no hone]; exact hone
    | true =>
      obtain ⟨a, b, c⟩ := one_size hone
      have ih := scan_rest n (l.drop (sizeAt l)) (by rw [List.length_drop]; omega)
      rw [scanD_one hone]
      rw [List.drop_drop] at ih
      exact ih
theorem err_more (l q : List UInt8) : errD (l ++ q) = errD (l.drop (scanD l).2 ++ q) := by
  unfold errD
  rw [scan_more' l q]
  simp only []
  rw [← List.drop_drop, List.drop_append_of_le_length (scan_le l)]
theorem err_cases (l : List UInt8) : errD l = 0 ∨ errD l = 60 := by
  unfold errD
  split
  · exact .inl rfl
  · exact .inr rfl
/-- Where bytes can't go on, more of them change nothing. -/
theorem scan_bad {l : List UInt8} (h : errD l = 60) (q : List UInt8) : scanD (l ++ q) = scanD l ∧ errD (l ++ q) = 60 := by
  have hw : wellD (l.drop (scanD l).2) = false := by
    unfold errD at h
    split at h
    · cases h
    · rename_i h1; simpa using h1
  have h1 := well_bad hw q
  have h2 := scan_more' l q
  rw [scanD_no (isOne_well h1)] at h2
  have h3 : scanD (l ++ q) = scanD l := by rw [h2]; simp
  refine ⟨h3, ?_⟩
  unfold errD
  rw [h3, List.drop_append_of_le_length (scan_le l), h1]
  rfl

/-! ### there and back -/
def encL : List Fr → List UInt8
  | [] => []
  | f :: r => encF f ++ encL r
theorem encL_snoc : ∀ (l : List Fr) (f : Fr), encL (l ++ [f]) = encL l ++ encF f
  | [], f => by simp [encL]
  | g :: r, f => by simp [encL, encL_snoc r f]
theorem encL_len : ∀ (l : List Fr), (∀ f ∈ l, f.may) → (encL l).length ≤ 4096 * l.length
  | [], _ => by simp [encL]
  | f :: r, h => by
    have h1 := Fr.may_le (h f (by simp))
    have h2 := encL_len r (fun g hg => h g (by simp [hg]))
    simp only [encL, List.length_append, encF_length, List.length_cons]
    omega
theorem scan_enc : ∀ (l : List Fr) (r : List UInt8), (∀ f ∈ l, f.may) → scanD (encL l ++ r) = (l ++ (scanD r).1, (encL l).length + (scanD r).2)
  | [], r, _ => by simp [encL]
  | f :: l, r, h => by
    have hf := h f (by simp)
    have e : encL (f :: l) ++ r = encF f ++ (encL l ++ r) := by simp [encL]
    have hl : (encF f).length = 12 + f.p.size := encF_length f
    rw [e, scanD_one (enc_one f hf _), enc_size f hf, enc_frame f hf, ← hl, List.drop_left, scan_enc l r (fun g hg => h g (by simp [hg]))]
    simp [encL, Nat.add_assoc]
/-- A beginning of a frame's bytes that is not all of them: no frame, and it begins well. -/
theorem cut_one (f : Fr) (h : f.may) (j : Nat) (hj : j < (encF f).length) : isOne ((encF f).take j) = false ∧ wellD ((encF f).take j) = true := by
  have hw : wellD ((encF f).take j) = true := by
    have := enc_well f h []
    rw [List.append_nil, ← List.take_append_drop j (encF f)] at this
    exact well_front this
  refine ⟨?_, hw⟩
  cases hone : isOne ((encF f).take j) with
  | false => rfl
  | true =>
    obtain ⟨h1, _, h3⟩ := (isOne_iff _).1 hone
    have hs := enc_size f h []
    have hlen := encF_length f
    rw [List.append_nil] at hs
    unfold sizeAt at h3 hs
    rw [List.length_take] at h1 h3
    rw [byteAt_take _ _ 2 (by omega), byteAt_take _ _ 3 (by omega)] at h3
    omega
theorem scan_back (l : List Fr) (hl : ∀ f ∈ l, f.may) (f : Fr) (h : f.may) (j : Nat) (hj : j < (encF f).length) : scanD (encL l ++ (encF f).take j) = (l, (encL l).length) ∧ errD (encL l ++ (encF f).take j) = 0 := by
  obtain ⟨h1, h2⟩ := cut_one f h j hj
  have h3 : scanD (encL l ++ (encF f).take j) = (l, (encL l).length) := by
    rw [scan_enc l _ hl, scanD_no h1]
    simp
  refine ⟨h3, ?_⟩
  unfold errD
  rw [h3]
  simp only [List.drop_left]
  rw [h2]
  rfl

theorem list12 (l : List UInt8) (h : 12 ≤ l.length) : ∃ b0 b1 b2 b3 b4 b5 b6 b7 b8 b9 b10 b11 r, l = b0 :: b1 :: b2 :: b3 :: b4 :: b5 :: b6 :: b7 :: b8 :: b9 :: b10 :: b11 :: r := by
  match l, h with
  | b0 :: b1 :: b2 :: b3 :: b4 :: b5 :: b6 :: b7 :: b8 :: b9 :: b10 :: b11 :: r, _ => exact ⟨_, _, _, _, _, _, _, _, _, _, _, _, _, rfl⟩
theorem ofNat_eq {b : UInt8} {n : Nat} (h : b.toNat = n) : UInt8.ofNat n = b := by subst h; simp
/-- What is told may be put, and is put as its bytes. -/
theorem dec_enc {l : List UInt8} (h : isOne l = true) : (oneF l).may ∧ encF (oneF l) = l.take (sizeAt l) := by
  obtain ⟨h12, hw, hsz⟩ := (isOne_iff l).1 h
  obtain ⟨s1, s2, _⟩ := one_size h
  rw [wellD_iff] at hw
  have hb : ∀ i, i < 12 → i ≠ 3 → byteAt l i ≤ mostAt i := fun i hi h3 => by
    have := hw i (by omega) hi
    rw [most_le2 l i h3] at this
    simpa using this
  have q0 := hb 0 (by decide) (by decide)
  have q1 := hb 1 (by decide) (by decide)
  have q4 := hb 4 (by decide) (by decide)
  have q5 := hb 5 (by decide) (by decide)
  have q8 := hb 8 (by decide) (by decide)
  have q9 := hb 9 (by decide) (by decide)
  have q10 := hb 10 (by decide) (by decide)
  have q11 := hb 11 (by decide) (by decide)
  have q6 := byteAt_lt l 6
  have q7 := byteAt_lt l 7
  simp only [mostAt] at q0 q1 q4 q5 q8 q9 q10 q11
  have hof : oneF l = { a := byteAt l 0 / 8 % 2 == 1, b := byteAt l 0 / 4 % 2 == 1, c := byteAt l 0 / 2 % 2 == 1, d := byteAt l 0 % 2 == 1, t := byteAt l 1, k := byteAt l 5, ch := 256 * byteAt l 6 + byteAt l 7, p := str8 ((l.take (sizeAt l)).drop 12) } := by
    unfold oneF
    rw [if_pos h]
    unfold decD
    rw [byteAt_take l _ 0 (by omega), byteAt_take l _ 1 (by omega), byteAt_take l _ 5 (by omega), byteAt_take l _ 6 (by omega), byteAt_take l _ 7 (by omega)]
  have hps : (str8 ((l.take (sizeAt l)).drop 12)).size = sizeAt l - 12 := by
    rw [str8_size, List.length_drop, List.length_take]
    omega
  refine ⟨?_, ?_⟩
  · rw [hof]
    refine ⟨⟨by simp only []; omega, by simp only []; omega, by simp only []; omega, by simp only []; rw [hps]; omega⟩, ?_⟩
    unfold checkF
    simp only []
    rw [hps, if_neg (by omega)]
  · rw [← List.append_nil (encF (oneF l)), enc_cons, hof]
    have hfl : flagsD { a := byteAt l 0 / 8 % 2 == 1, b := byteAt l 0 / 4 % 2 == 1, c := byteAt l 0 / 2 % 2 == 1, d := byteAt l 0 % 2 == 1, t := byteAt l 1, k := byteAt l 5, ch := 256 * byteAt l 6 + byteAt l 7, p := str8 ((l.take (sizeAt l)).drop 12) } = byteAt l 0 := flags_of (byteAt l 0) (by omega)
    rw [hfl]
    simp only []
    rw [hps, sb_str8]
    have hz : sizeAt l = 256 * byteAt l 2 + byteAt l 3 := rfl
    have z2 := byteAt_lt l 2
    have z3 := byteAt_lt l 3
    obtain ⟨b0, b1, b2, b3, b4, b5, b6, b7, b8, b9, b10, b11, r, rfl⟩ := list12 l h12
    obtain ⟨n, hn⟩ : ∃ n, sizeAt (b0 :: b1 :: b2 :: b3 :: b4 :: b5 :: b6 :: b7 :: b8 :: b9 :: b10 :: b11 :: r) = n + 12 := ⟨_, (Nat.sub_add_cancel s1).symm⟩
    rw [hn] at hz ⊢
    have et : (b0 :: b1 :: b2 :: b3 :: b4 :: b5 :: b6 :: b7 :: b8 :: b9 :: b10 :: b11 :: r).take (n + 12) = b0 :: b1 :: b2 :: b3 :: b4 :: b5 :: b6 :: b7 :: b8 :: b9 :: b10 :: b11 :: r.take n := rfl
    rw [et]
    have ed : (b0 :: b1 :: b2 :: b3 :: b4 :: b5 :: b6 :: b7 :: b8 :: b9 :: b10 :: b11 :: r.take n).drop 12 = r.take n := rfl
    rw [ed, List.append_nil]
    simp only [byteAt, List.getD_cons_zero, List.getD_cons_succ] at *
    rw [ofNat_eq (b := b0) rfl, ofNat_eq (b := b1) rfl, ofNat_eq (b := b5) rfl, ofNat_eq (b := b2) (n := (12 + (n + 12 - 12)) / 256) (by omega), ofNat_eq (b := b6) (n := (256 * b6.toNat + b7.toNat) / 256) (by omega)]
    have e3 : UInt8.ofNat (12 + (n + 12 - 12)) = b3 := by apply UInt8.toNat_inj.1; simp; omega
    have e7 : UInt8.ofNat (256 * b6.toNat + b7.toNat) = b7 := by apply UInt8.toNat_inj.1; simp
    rw [e3, e7, show UInt8.ofNat 0 = b4 from ofNat_eq (by omega)]
    have f8 : b8 = b4 := UInt8.toNat_inj.1 (by omega)
    have f9 : b9 = b4 := UInt8.toNat_inj.1 (by omega)
    have f10 : b10 = b4 := UInt8.toNat_inj.1 (by omega)
    have f11 : b11 = b4 := UInt8.toNat_inj.1 (by omega)
    rw [f8, f9, f10, f11]
theorem scan_again : ∀ (n : Nat) (l : List UInt8), l.length ≤ n → (∀ f ∈ (scanD l).1, f.may) ∧ encL (scanD l).1 = l.take (scanD l).2
  | 0, l, h => by
    have : l = [] := List.eq_nil_of_length_eq_zero (by omega)
    subst this
    rw [scanD_no isOne_nil]
    exact ⟨fun f hf => by simp at hf, rfl⟩
  | n + 1, l, h => by
    cases hone : isOne l with
    | false =>
      rw [scanD_no hone]
      exact ⟨fun f hf => by simp at hf, rfl⟩
    | true =>
      obtain ⟨a, b, c⟩ := one_size hone
      obtain ⟨h1, h2⟩ := scan_again n (l.drop (sizeAt l)) (by rw [List.length_drop]; omega)
      obtain ⟨h3, h4⟩ := dec_enc hone
      rw [scanD_one hone]
      refine ⟨fun f hf => ?_, ?_⟩
      · simp at hf
        rcases hf with rfl | hf
        · exact h3
        · exact h1 f hf
      · simp only [encL]
        rw [h4, h2, List.take_add]

end Go.Proofs.YtdjahdnaihijjaaGreatDoor
