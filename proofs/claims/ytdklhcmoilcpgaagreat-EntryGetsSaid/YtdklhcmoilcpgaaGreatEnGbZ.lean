/-
  The document's Get of an entry: all ahead of the rows.
  Conditions: at most 40000 bytes.
-/
import Derived.Test.YtdklhcmoilcpgaaGreatEnGaZ
import Derived.Test.YtdklhcmoilcpgaaGreatEnRZ
import Derived.Test.YtdklhcmoilcpgaaGreatEnGpZ
namespace Go.Proofs.YtdklhcmoilcpgaaGreat
open Go.RowKit
set_option linter.unusedVariables false
set_option linter.unusedSimpArgs false
set_option maxRecDepth 100000
theorem listS_stop {α : Type} (item : St → α × St) (s : St) (j : Nat) (h : (listS item true j s).2 = none) : ∀ m, listS item true (j + m) s = listS item true j s
 | 0 => rfl
 | m + 1 => by
  have ih := listS_stop item s j h m
  have e : listS item true (j + (m + 1)) s = (if true = true ∧ (listS item true (j + m) s).2 = none then listS item true (j + m) s else ((listS item true (j + m) s).1 ++ [(item (listS item true (j + m) s).2).1], (item (listS item true (j + m) s).2).2)) := rfl
  rw [e, if_pos ⟨rfl, by rw [ih]; exact h⟩]
  exact ih
theorem listS_go {α : Type} (item : St → α × St) (s : St) (j : Nat) (h : (listS item true j s).2 ≠ none) : listS item true (j + 1) s = ((listS item true j s).1 ++ [(item (listS item true j s).2).1], (item (listS item true j s).2).2) := if_neg (fun c => h c.2)
theorem listS_le {α : Type} (item : St → α × St) (s : St) : ∀ j, (listS item true j s).1.length ≤ j
 | 0 => Nat.le_refl _
 | j + 1 => by
  have ih := listS_le item s j
  unfold listS
  split
  ·omega
  ·simp only [List.length_append, List.length_singleton]; omega
theorem QS.spent {w : World} {g d : Nat} {s : St} (h : QS w g d s) : w.cell? ⟨g, 1, none⟩ = some (.bool s.isNone) := by
 cases s with
 | none => rw [cell_of_row w g 1 _ 85 (0, 0) h]; rfl
 | some l => obtain ⟨A, c, h1, h2⟩ := h; rw [cell_of_row w g 1 _ 85 (0, 0) h1]; rfl
def BoxN (w : World) (r : Nat) (q : ByteArray) (id : Nat) : Prop := w.heap[r]? = some (.cells #[.string q, .int .u64 id] 48 (0, 0))
def BoxW (w : World) (r : Nat) (vs : List Value) : Prop := w.heap[r]? = some (.cells vs.toArray 67 (0, 0))
section
variable {w w' : World} {r B g : Nat} {vs : List Value}
theorem BoxW.lt (h : BoxW w r vs) : r < w.heap.size := (Array.getElem?_eq_some_iff.1 h).1
theorem BoxW.cell (h : BoxW w r vs) (i : Nat) : w.cell? ⟨r, i, none⟩ = vs[i]? := by
 rw [cell_of_row w r i _ 67 (0, 0) h]
 simp
theorem BoxW.fr (h : BoxW w r vs) (i : Nat) : w.frozen? ⟨r, i, none⟩ = false := frozen_of_row w r i _ 67 h
theorem BoxW.set (h : BoxW w r vs) (i : Nat) (u : Value) : BoxW (w.setCell ⟨r, i, none⟩ u) r (vs.set i u) := by
 have h9 := heap_setCell_same w r i _ 67 u h
 rw [List.setIfInBounds_toArray] at h9
 exact h9
theorem BoxW.kept (h : BoxW w r vs) (hb : Below B w w') (hB : r < B) : BoxW w' r vs := (hb.block r hB).trans h
theorem BoxW.read (h : BoxW w r vs) (hg : w.grownBy w' (some g)) (hn : g < r) : BoxW w' r vs := (hg.block r h.lt (fun e => by have := Option.some.inj e; omega)).trans h
end
def setsL : List Value → Nat → List Value → List Value
  | [], _, l => l
  | v :: vs, i, l => setsL vs (i + 1) (l.set i v)
theorem BoxW.sets {r : Nat} : ∀ (vs : List Value) (i : Nat) {w : World} {l : List Value}, BoxW w r l → BoxW (setN w r i vs) r (setsL vs i l)
 | [], i, w, l, h => h
 | v :: vs, i, w, l, h => BoxW.sets vs (i + 1) (h.set i v)
theorem QE.setN1 {w wx : World} {g d b r : Nat} {x : EntC} {s : St} (h : QE w g d b x s wx) (hr : b < r) (i : Nat) (v : Value) : QE w g d b x s (wx.setCell ⟨r, i, none⟩ v) := h.grow (grown_set i v) (fun k hk => by cases hk; exact hr)
theorem QE.setN {w : World} {g d b r : Nat} {x : EntC} {s : St} (hr : b < r) : ∀ (vs : List Value) (i : Nat) (wx : World), QE w g d b x s wx → QE w g d b x s (Go.Proofs.YtdklhcmoilcpgaaGreat.setN wx r i vs)
 | [], i, wx, h => h
 | v :: vs, i, wx, h => QE.setN hr vs (i + 1) _ (h.setN1 hr i v)
def QGetSaid (l : List UInt8) (w : World) (e : Ending) (w' : World) : Prop :=
  ∃ (x : EntC) (E : Nat), e = .returned (.tuple #[entV x, .int .i64 E]) ∧ ShowsE (lowm w.heap.size w') x ∧ Below w.heap.size w w' ∧ ((getE l = none ∧ x = zC ∧ E = 130) ∨ (getE l = some x.e ∧ E = 0))
set_option maxHeartbeats 16000000 in
theorem qeget_any (s : ByteArray) (w : World) (hs : s.size ≤ 40000) : Calls Tryz.prog 16 #[.string s] w (QGetSaid (sb s) w) := by
  have hB0 := below_boxV w zEnt
  obtain ⟨v1, w1, hcv, hs1, hb1⟩ := conv_tobytes (w.alloc zEnt) s (by omega)
  have hl : (sb s).length ≤ 40000 := by rw [sb_length]; exact hs
  have HO := Lib.hid (qopen_any v1 (sb s) _ w1 hs1 (by omega))
  have hb01 := hB0.trans (hb1.mono hB0.size)
  have hsz1 : w.heap.size + 1 ≤ w1.heap.size := by have := hb1.size; rwa [World.size_alloc] at this
  have hres1 := (hb1.block w.heap.size (by simp)).trans (heap_alloc_new w zEnt)
  have HB01 := Lib.hid hb01
  have HRES := Lib.hid hres1
  unfold QGetSaid
  clear hb1 hs1 hB0 hb01 hres1
  obtain ⟨⟨k, s0⟩, ha⟩ : ∃ x, x = numS 1 (some (sb s)) := ⟨_, rfl⟩
  obtain ⟨⟨nm, s1⟩, hb⟩ : ∃ x, x = nameS 255 k s0 := ⟨_, rfl⟩
  obtain ⟨⟨n, s2⟩, hc⟩ : ∃ x, x = nrS k s1 := ⟨_, rfl⟩
  obtain ⟨⟨⟨xf, xg, xh⟩, s3⟩, hd⟩ : ∃ x, x = xS true k s2 := ⟨_, rfl⟩
  obtain ⟨⟨ps, s4⟩, hp⟩ : ∃ x, x = psS 255 s.size 65535 true k s3 := ⟨_, rfl⟩
  obtain ⟨⟨ts, s5⟩, ht⟩ : ∃ x, x = tsS 255 true k s4 := ⟨_, rfl⟩
  obtain ⟨D, hD⟩ : ∃ D, D = decG 255 (sb s).length 65535 true (sb s) := ⟨_, rfl⟩
  have hdec : D = ⟨k, nm, n, xf, xg, xh, ps, ts⟩ := by
    rw [hD, sb_length]
    unfold decG
    rw [← ha]
    simp only []
    rw [← hb]
    simp only []
    rw [← hc]
    simp only []
    rw [← hd]
    simp only []
    rw [← hp]
    simp only []
    rw [← ht]
  have HNO := Lib.hid (show ¬ (validE D ∧ encE D = sb s) → getE (sb s) = none from fun h => getE_no_doc (by rw [← hD]; exact h))
  have HYES := Lib.hid (show validE D → encE D = sb s → getE (sb s) = some D from fun h1 h2 => by rw [hD] at h1 h2 ⊢; exact getE_yes _ _ _ _ h1 h2)
  have HDEC := Lib.hid hdec
  clear hdec hD
  have hk : k < 256 := by have := num1_lt (some (sb s)); rw [← ha] at this; exact this
  have l0 : lenS s0 ≤ 40000 := by have := lenS_num 1 (some (sb s)); rw [← ha] at this; exact Nat.le_trans this hl
  have HN1 := Lib.hid (fun g d w' (hr : QS w' g d (some (sb s))) => (show Calls Tryz.prog 38 #[.pointer (some ⟨g, 0, none⟩), .int .i64 1] w' fun e w'' => e = .returned (.int .u64 (k : Nat)) ∧ QS w'' g d s0 ∧ w'.grownBy w'' (some g) from by
    have h9 := qnum_any g d (some (sb s)) 1 w' hr (by show (sb s).length ≤ _; omega)
    rw [← ha] at h9
    exact h9))
  have hkw : IntKind.u8.wrap (k : Int) = (k : Int) := by rw [IntKind.wrap_u8]; omega
  have HR := Lib.hid (fun w' => qrow_any k w')
  have HNM := Lib.hid (fun (hu : uName k = true) g d w' (hr : QS w' g d s0) => (show Calls Tryz.prog 39 #[.pointer (some ⟨g, 0, none⟩), .int .i64 1, .int .i64 255] w' fun e w'' => e = .returned (.string nm) ∧ QS w'' g d s1 ∧ w'.grownBy w'' (some g) from by
    have h9 := qtext_any g d s0 1 255 w' hr (by omega) (by omega) (by omega)
    unfold nameS at hb
    rw [if_pos hu] at hb
    have e1 : nm = str8 (textS 1 255 s0).1 := congrArg Prod.fst hb
    have e2 : s1 = (textS 1 255 s0).2 := congrArg Prod.snd hb
    rw [← e1, ← e2] at h9
    exact h9))
  have hnm0 : uName k = false → nm = ⟨#[]⟩ ∧ s1 = s0 := fun hu => by
    unfold nameS at hb
    rw [if_neg (by rw [hu]; decide)] at hb
    exact ⟨congrArg Prod.fst hb, congrArg Prod.snd hb⟩
  have l1 : lenS s1 ≤ 40000 := by
    have : s1 = (nameS 255 k s0).2 := congrArg Prod.snd hb
    rw [this]
    unfold nameS
    split
    · exact Nat.le_trans (lenS_text _ _ _) l0
    · exact l0
  have HNN := Lib.hid (fun (hu : uNum k = true) g d w' (hr : QS w' g d s1) => (show Calls Tryz.prog 38 #[.pointer (some ⟨g, 0, none⟩), .int .i64 8] w' fun e w'' => e = .returned (.int .u64 (n : Nat)) ∧ QS w'' g d s2 ∧ w'.grownBy w'' (some g) from by
    have h9 := qnum_any g d s1 8 w' hr (by omega)
    unfold nrS at hc
    rw [if_pos hu] at hc
    rw [← hc] at h9
    exact h9))
  have hnr0 : uNum k = false → n = 0 ∧ s2 = s1 := fun hu => by
    unfold nrS at hc
    rw [if_neg (by rw [hu]; decide)] at hc
    exact ⟨congrArg Prod.fst hc, congrArg Prod.snd hc⟩
  have l2 : lenS s2 ≤ 40000 := by
    have : s2 = (nrS k s1).2 := congrArg Prod.snd hc
    rw [this]
    unfold nrS
    split
    · exact Nat.le_trans (lenS_num _ _) l1
    · exact l1
  obtain ⟨nx, hnx⟩ : ∃ nx, nx = (xgot (leftB s2)).2 := ⟨_, rfl⟩
  have HXG := Lib.hid (fun (hu : uX k = true) v d' w' (hv : Shows w' d' v (leftB s2)) => (show Calls Tryz.prog 40 #[v] w' fun e w'' => ∃ E : Int, e = .returned (.tuple #[.agg #[.int .u32 (xf : Nat), .string xg, .string xh], .int .i64 (nx : Nat), .int .i64 E]) ∧ Below w'.heap.size w' w'' from by
    have h9 := qxget_got v d' (leftB s2) w' hv (Nat.le_trans (Nat.le_of_eq (show (leftB s2).length = lenS s2 by cases s2 <;> rfl)) (by omega))
    unfold xS at hd
    rw [if_pos hu] at hd
    have e1 : (xf, xg, xh) = (xgot (leftB s2)).1 := congrArg Prod.fst hd
    rw [← e1, ← hnx] at h9
    exact h9))
  have HTK := Lib.hid (fun (hu : uX k = true) g d w' (hr : QS w' g d s2) => (show Calls Tryz.prog 41 #[.pointer (some ⟨g, 0, none⟩), .int .i64 (nx : Nat)] w' fun e w'' => ∃ v, e = .returned v ∧ QS w'' g d s3 ∧ w'.grownBy w'' (some g) from by
    have h9 := qtake_any g d s2 nx w' hr (by omega)
    unfold xS at hd
    rw [if_pos hu] at hd
    have e2 : s3 = (takeS (nx : Nat) s2).2 := by rw [hnx]; exact congrArg Prod.snd hd
    rw [← e2] at h9
    exact h9.mono fun e w'' ⟨v, h1, h2, h3, h4⟩ => ⟨v, h1, h3, h4⟩))
  have hx0 : uX k = false → (xf = 0 ∧ xg = ⟨#[]⟩ ∧ xh = ⟨#[]⟩) ∧ s3 = s2 := fun hu => by
    unfold xS at hd
    rw [if_neg (by rw [hu]; decide)] at hd
    have e1 : (xf, xg, xh) = (0, ⟨#[]⟩, ⟨#[]⟩) := congrArg Prod.fst hd
    simp only [Prod.mk.injEq] at e1
    exact ⟨e1, congrArg Prod.snd hd⟩
  have l3 : lenS s3 ≤ 40000 := by
    have : s3 = (xS true k s2).2 := congrArg Prod.snd hd
    rw [this]
    unfold xS xidS
    split
    · exact Nat.le_trans (takeS_lenS _ _) l2
    · exact l2
  have hz1 : nm.size ≤ 140737488351232 := by
    have : nm = (nameS 255 k s0).1 := congrArg Prod.fst hb
    rw [this]
    unfold nameS
    split
    · rw [str8_size]; exact Nat.le_trans (textS_le2 _ _ _) (by omega)
    · show ByteArray.size ⟨#[]⟩ ≤ _
      decide
  have hz2 : n < 18446744073709551616 := by
    have : n = (nrS k s1).1 := congrArg Prod.fst hc
    rw [this]
    unfold nrS
    split
    · exact numS_lt 8 _
    · show 0 < 18446744073709551616
      omega
  have hz3 : xf < 4294967296 ∧ xg.size ≤ 140737488351232 ∧ xh.size ≤ 140737488351232 := by
    have e1 : (xf, xg, xh) = (xS true k s2).1 := congrArg Prod.fst hd
    unfold xS at e1
    split at e1
    · exact xid_sizes (s := s2) (s1 := (xidS false s2).2) (by rw [e1]; rfl) (by omega)
    · cases e1; decide
  have HZ := Lib.hid (And.intro hk (And.intro hz1 (And.intro hz2 hz3)))
  clear hz1 hz2 hz3
  have hw0 : uWork k = false → ps = [] ∧ ts = [] ∧ s5 = s3 := fun hu => by
    unfold psS at hp
    rw [if_neg (by rw [hu]; decide)] at hp
    unfold tsS at ht
    rw [if_neg (by rw [hu]; decide)] at ht
    have e1 : ps = [] := congrArg Prod.fst hp
    have e2 : s4 = s3 := congrArg Prod.snd hp
    have e3 : ts = [] := congrArg Prod.fst ht
    have e4 : s5 = s4 := congrArg Prod.snd ht
    exact ⟨e1, e3, e4.trans e2⟩
  obtain ⟨⟨C1, t1⟩, hC1⟩ : ∃ x, x = numS 1 s3 := ⟨_, rfl⟩
  obtain ⟨⟨C2, t2⟩, hC2⟩ : ∃ x, x = numS 1 s4 := ⟨_, rfl⟩
  have hw1 : uWork k = true → (ps = (listS (putS 255 s.size 65535) true C1 t1).1 ∧ s4 = (listS (putS 255 s.size 65535) true C1 t1).2) ∧ (ts = (listS (refS 255) true C2 t2).1 ∧ s5 = (listS (refS 255) true C2 t2).2) := fun hu => by
    unfold psS at hp
    rw [if_pos hu, ← hC1] at hp
    unfold tsS at ht
    rw [if_pos hu, ← hC2] at ht
    exact ⟨⟨congrArg Prod.fst hp, congrArg Prod.snd hp⟩, ⟨congrArg Prod.fst ht, congrArg Prod.snd ht⟩⟩
  have hC1l : C1 < 256 := by have := num1_lt s3; rw [← hC1] at this; exact this
  have hC2l : C2 < 256 := by have := num1_lt s4; rw [← hC2] at this; exact this
  have lt2' : lenS t2 ≤ lenS s4 := by have := lenS_num 1 s4; rw [← hC2] at this; exact this
  have lt1 : lenS t1 ≤ 40000 := by have := lenS_num 1 s3; rw [← hC1] at this; exact Nat.le_trans this l3
  have HC1 := Lib.hid (fun g d w' (hr : QS w' g d s3) => (show Calls Tryz.prog 38 #[.pointer (some ⟨g, 0, none⟩), .int .i64 1] w' fun e w'' => e = .returned (.int .u64 (C1 : Nat)) ∧ QS w'' g d t1 ∧ w'.grownBy w'' (some g) from by
    have h9 := qnum_any g d s3 1 w' hr (by omega)
    rw [← hC1] at h9
    exact h9))
  have HC2 := Lib.hid (fun (hl4 : lenS s4 ≤ 40000) g d w' (hr : QS w' g d s4) => (show Calls Tryz.prog 38 #[.pointer (some ⟨g, 0, none⟩), .int .i64 1] w' fun e w'' => e = .returned (.int .u64 (C2 : Nat)) ∧ QS w'' g d t2 ∧ w'.grownBy w'' (some g) from by
    have h9 := qnum_any g d s4 1 w' hr (by omega)
    rw [← hC2] at h9
    exact h9))
  have HW := Lib.hid (And.intro hw0 (And.intro hw1 (And.intro hC1l (And.intro hC2l (And.intro lt1 lt2')))))
  clear hw0 hw1 hC1l hC2l lt1 lt2' hC1 hC2 hp ht
  have HF := Lib.hid (And.intro hnm0 (And.intro hnr0 hx0))
  clear ha hb hc hd hnm0 hnr0 hx0 hnx
  generalize uX k = u3 at *
  generalize uWork k = u4 at *
  generalize uName k = u1 at *
  generalize uNum k = u2 at *
  have HCV := Lib.hid hcv
  clear hcv
  have hcv := HCV.out
  go_enter Tryz.func16, Tryz.ntmps16
  go_wp2_with fail
  refine HO.out.mono ?_
  rintro e w3 ⟨g, d, rfl, hr3, hg3, ⟨hd31, hd32⟩, hb3⟩
  have hB4 := below_boxV w3 zEnt
  have hX4 := BoxE.new (x := ⟨0, ⟨#[]⟩, 0, 0, ⟨#[]⟩, ⟨#[]⟩, none, 0, [], none, 0, []⟩) w3
  have hQ4 : QE w g d w3.heap.size ⟨0, ⟨#[]⟩, 0, 0, ⟨#[]⟩, ⟨#[]⟩, none, 0, [], none, 0, []⟩ (some (sb s)) (w3.alloc zEnt) := by
    have := hb3.size
    have hglt := hr3.lt
    exact ⟨(hB4.block _ (by omega)).trans ((hb3.block _ (by omega)).trans HRES.out), hX4, hr3.keep (by simp) (hB4.block g hglt) (fun hd => hB4.block d hd), (HB01.out.trans (hb3.mono HB01.out.size)).trans (hB4.mono (by have := HB01.out.size; omega)), by omega, hd32, by omega, hglt⟩
  have HQ4 := Lib.hid hQ4
  obtain ⟨W4, hW4⟩ : ∃ W4, W4 = w3.alloc zEnt := ⟨_, rfl⟩
  rw [← hW4] at hQ4
  go_upto_region 3 with fail
  rw [← hW4]
  generalize w3.heap.size = b at *
  clear hB4 hX4 HQ4 hW4 hr3 hg3 hd31 hd32 hb3 hcv HCV HO
  go_wp2_with fail
  refine (HN1.out _ _ _ hQ4.rd).mono ?_
  rintro e w5 ⟨rfl, hr5, hg5⟩
  have hQ5 := hQ4.read hr5 hg5
  have hc0 := hQ5.box.cells.1.1
  have hf0 := hQ5.box.fr 0
  have hQ6 : QE w g d b ⟨k, ⟨#[]⟩, 0, 0, ⟨#[]⟩, ⟨#[]⟩, none, 0, [], none, 0, []⟩ s0 (w5.setCell ⟨b, 0, none⟩ (.int .u8 k)) := hQ5.set 0 (.int .u8 k) (heap_setCell_same w5 b 0 _ 29 (.int .u8 k) hQ5.box)
  simp only [] at hc0
  obtain ⟨W6, hW6⟩ : ∃ W6, W6 = w5.setCell ⟨b, 0, none⟩ (.int .u8 k) := ⟨_, rfl⟩
  rw [← hW6] at hQ6
  clear hQ4 hQ5 hr5 hg5
  go_upto_region 4 with fail
  rw [← hW6]
  clear hW6 hc0 hf0
  have hc0 := hQ6.box.cells.1.1
  simp only [] at hc0
  go_wp2_with fail
  refine (HR.out _).mono ?_
  rintro e w9 ⟨rfl, hw9⟩
  rw [hw9]
  clear hw9 hc0
  go_upto_if 38 with fail
  go_cut [] from 38 to 41 (fun wx => QE w g d b ⟨k, nm, 0, 0, ⟨#[]⟩, ⟨#[]⟩, none, 0, [], none, 0, []⟩ s1 wx)
  case first =>
    cases u1 with
    | true =>
      go_wp2_with fail
      refine (HNM.out (by trivial) _ _ _ hQ6.rd).mono ?_
      rintro e w7 ⟨rfl, hr7, hg7⟩
      have hQ7 := hQ6.read hr7 hg7
      have hc1 := hQ7.box.cells.1.2.1
      have hf1 := hQ7.box.fr 1
      simp only [] at hc1
      go_wp2_with fail
      go_meet
      case rel => exact hQ7.set 1 (.string nm) (hQ7.box.name nm)
    | false =>
      obtain ⟨rfl, rfl⟩ := HF.out.1 (by trivial)
      go_wp2_with fail
      go_meet
      case rel => exact hQ6
  case rest =>
  clear hQ6
  go_upto_if 42 with fail
  go_cut [] from 42 to 45 (fun wx => QE w g d b ⟨k, nm, n, 0, ⟨#[]⟩, ⟨#[]⟩, none, 0, [], none, 0, []⟩ s2 wx)
  case first =>
    cases u2 with
    | true =>
      go_wp2_with fail
      refine (HNN.out (by trivial) _ _ _ hcut.rd).mono ?_
      rintro e w7 ⟨rfl, hr7, hg7⟩
      have hQ7 := hcut.read hr7 hg7
      have hc1 := hQ7.box.cells.1.2.2
      have hf1 := hQ7.box.fr 2
      simp only [] at hc1
      go_wp2_with fail
      go_meet
      case rel => exact hQ7.set 2 (.int .u64 n) (hQ7.box.num n)
    | false =>
      obtain ⟨rfl, rfl⟩ := HF.out.2.1 (by trivial)
      go_wp2_with fail
      go_meet
      case rel => exact hcut
  case rest =>
  rename World => W7
  have hQ7 := hcut
  clear hcut
  go_upto_if 46 with fail
  go_cut [] from 46 to 60 (fun wx => QE w g d b ⟨k, nm, n, xf, xg, xh, none, 0, [], none, 0, []⟩ s3 wx)
  case first =>
    cases u3 with
    | true =>
      obtain ⟨A, c, hc0, hsh⟩ := hQ7.rd.c0
      go_wp2_with fail
      refine (HXG.out (by trivial) _ _ _ hsh).mono ?_
      rintro e w8 ⟨E8, rfl, hb8⟩
      have hQ8 := hQ7.step hb8
      have hB9 := below_boxV w8 (Obj.cells #[.int .u32 xf, .string xg, .string xh] 25)
      have hQ9 := hQ8.step hB9
      have hX9 := Boxed.new (f := xf) (g := xg) (h := xh) w8
      obtain ⟨W9, hW9⟩ : ∃ W9, W9 = w8.alloc (Obj.cells #[.int .u32 xf, .string xg, .string xh] 25) := ⟨_, rfl⟩
      rw [← hW9] at hQ9 hX9
      clear hQ8 hb8 hB9 hsh hc0
      go_upto_region 11 with fail
      rw [← hW9]
      clear hW9
      obtain ⟨y0, y1, y2⟩ : W9.cell? ⟨w8.heap.size, 0, none⟩ = some (.int .u32 xf) ∧ W9.cell? ⟨w8.heap.size, 1, none⟩ = some (.string xg) ∧ W9.cell? ⟨w8.heap.size, 2, none⟩ = some (.string xh) := ⟨cell_of_row W9 w8.heap.size 0 _ 25 (0, 0) hX9, cell_of_row W9 w8.heap.size 1 _ 25 (0, 0) hX9, cell_of_row W9 w8.heap.size 2 _ 25 (0, 0) hX9⟩
      have c3 := hQ9.box.cells.2.1.1
      have c4 := hQ9.box.cells.2.1.2.1
      have c5 := hQ9.box.cells.2.1.2.2
      simp only [] at c3 c4 c5
      have f3 := hQ9.box.fr 3
      have f4 := hQ9.box.fr 4
      have f5 := hQ9.box.fr 5
      have hQA := hQ9.set 3 (.int .u32 xf) (hQ9.box.sxf xf)
      have hQB := hQA.set 4 (.string xg) (hQA.box.sxg xg)
      have hQC := hQB.set 5 (.string xh) (hQB.box.sxh xh)
      simp only [] at hQC
      obtain ⟨WC, hWC⟩ : ∃ WC, WC = ((W9.setCell ⟨b, 3, none⟩ (.int .u32 xf)).setCell ⟨b, 4, none⟩ (.string xg)).setCell ⟨b, 5, none⟩ (.string xh) := ⟨_, rfl⟩
      rw [← hWC] at hQC
      clear hQA hQB hX9
      go_upto_region 12 with fail
      rw [← hWC]
      clear hWC y0 y1 y2 c3 c4 c5 f3 f4 f5 hQ9
      go_wp2_with fail
      refine (HTK.out (by trivial) _ _ _ hQC.rd).mono ?_
      rintro e wD ⟨vD, rfl, hrD, hgD⟩
      go_wp2_with fail
      go_meet
      case rel => exact hQC.read hrD hgD
    | false =>
      obtain ⟨⟨rfl, rfl, rfl⟩, rfl⟩ := HF.out.2.2 (by trivial)
      go_wp2_with fail
      go_meet
      case rel => exact hQ7
  case rest =>
  rename World => W8
  have hQ8 := hcut
  clear hcut hQ7
  go_upto_if 61 with fail
  go_cut [] from 61 to 126 (fun wx => ∃ (A : Option Addr) (c : Nat) (cs : List PutC) (A2 : Option Addr) (c2 : Nat) (rs : List RefE), esOf cs = ps ∧ rs = ts ∧ QE w g d b ⟨k, nm, n, xf, xg, xh, A, c, cs, A2, c2, rs⟩ s5 wx ∧ RowP (lowm (b + 1) wx) A c cs ∧ RowR (lowm (b + 1) wx) A2 c2 rs)
  case first =>
    cases u4 with
    | false =>
      obtain ⟨r1, r2, r3⟩ := HW.out.1 (by trivial)
      go_wp2_with fail
      go_meet
      case rel => exact ⟨none, 0, [], none, 0, [], r1.symm, r2.symm, by rw [r3]; exact hQ8, RowP.nil _, RowR.nil _⟩
    | true =>
      obtain ⟨⟨hps, hs4⟩, hts, hs5⟩ := HW.out.2.1 (by trivial)
      go_wp2_with fail
      refine (HC1.out _ _ _ hQ8.rd).mono ?_
      rintro e wB ⟨rfl, hrB, hgB⟩
      have hQB := hQ8.read hrB hgB
      clear hQ8 hrB hgB
      go_upto_block 0 with fail
      go_cut [] from 64 to 100 (fun wx => ∃ (A : Option Addr) (c : Nat) (cs : List PutC), esOf cs = ps ∧ QE w g d b ⟨k, nm, n, xf, xg, xh, A, c, cs, none, 0, []⟩ s4 wx ∧ PRow (b + 1) (.slice A cs.length c) cs wx ∧ cs.length ≤ 255)
      case first =>
        -- the loop over the puts
        have HPT := Lib.hid (fun (t : St) (hl : lenS t ≤ 40000) (q m : Int) (hm : 0 ≤ m ∧ m ≤ 65535) g d w' (hr : QS w' g d t) => qtext_any g d t q m w' hr (by omega) (by omega) (by omega))
        have HPN := Lib.hid (fun (t : St) (hl : lenS t ≤ 40000) g d w' (hr : QS w' g d t) => qnum_any g d t 8 w' hr (by omega))
        have HPG := Lib.hid (fun (l : List UInt8) (hl : l.length ≤ 40000) w' => (qpget_any (str8 l) w' (by rw [str8_size]; exact hl)).mono (fun e w'' h => PGetSaid.got h))
        have lt1 : ∀ j, lenS (listS (putS 255 s.size 65535) true j t1).2 ≤ 40000 := fun j => Nat.le_trans (lenS_listS _ _ (lenS_putS _ _ _) _ _) HW.out.2.2.2.2.1
        have HLT := Lib.hid lt1
        have HPS := Lib.hid (And.intro hps hs4)
        have HMS := Lib.hid (show (0 : Int) ≤ (s.size : Int) ∧ (s.size : Int) ≤ 65535 by omega)
        clear lt1 hps hs4 hts hs5
        go_wp2_with fail
        go_loopw [15] (fun iv wr => ∃ (j : Nat) (A : Option Addr) (c : Nat) (cs : List PutC), j ≤ C1 ∧ iv = .int .u64 j ∧ esOf cs = (listS (putS 255 s.size 65535) true j t1).1 ∧ QE w g d b ⟨k, nm, n, xf, xg, xh, A, c, cs, none, 0, []⟩ (listS (putS 255 s.size 65535) true j t1).2 wr ∧ PRow (b + 1) (.slice A cs.length c) cs wr ∧ cs.length ≤ j) (fun iv _ => C1 - (intOf iv).toNat)
        case atStart => exact ⟨0, none, 0, [], by omega, rfl, rfl, hQB, PRow.nil _ _, Nat.le_refl _⟩
        case round =>
          rename World => wr
          clear hQB
          obtain ⟨j, A, c, cs, hj, rfl, hes, hQ, hP, hcj⟩ := hrel
          have hsp := hQ.rd.spent
          have hC1 := HW.out.2.2.1
          have HFINX := Lib.hid (show listS (putS 255 s.size 65535) true C1 t1 = listS (putS 255 s.size 65535) true j t1 → ∃ (A : Option Addr) (c : Nat) (cs : List PutC), esOf cs = ps ∧ QE w g d b ⟨k, nm, n, xf, xg, xh, A, c, cs, none, 0, []⟩ s4 wr ∧ PRow (b + 1) (.slice A cs.length c) cs wr ∧ cs.length ≤ 255 from fun hfin =>
            ⟨A, c, cs, by rw [HPS.out.1, hfin]; exact hes, by rw [HPS.out.2, hfin]; exact hQ, hP, by omega⟩)
          by_cases hlt : j < C1
          · have hkc : (j : Int) < (C1 : Int) := by omega
            cases hst : (listS (putS 255 s.size 65535) true j t1).2 with
            | none =>
              rw [hst] at hsp
              simp only [Option.isNone_none] at hsp
              have HX := Lib.hid (HFINX.out (by have := listS_stop (putS 255 s.size 65535) t1 j hst (C1 - j); rwa [show j + (C1 - j) = C1 by omega] at this))
              clear HFINX hQ hP hes
              go_wp2_with fail
              go_meet
              case rel => exact HX.out
            | some l =>
              rw [hst] at hsp hQ
              simp only [Option.isNone_some] at hsp
              have hll : lenS (some l) ≤ 40000 := by have := HLT.out j; rwa [hst] at this
              have hgo := listS_go (putS 255 s.size 65535) t1 j (by rw [hst]; exact fun h => by cases h)
              rw [hst] at hgo
              obtain ⟨tq, u1', hq1⟩ : ∃ a b, textS 1 255 (some l) = (a, b) := ⟨_, _, rfl⟩
              obtain ⟨id, u2', hq2⟩ : ∃ a b, numS 8 u1' = (a, b) := ⟨_, _, rfl⟩
              obtain ⟨tx, u3', hq3⟩ : ∃ a b, textS 4 s.size u2' = (a, b) := ⟨_, _, rfl⟩
              obtain ⟨tb, u4', hq4⟩ : ∃ a b, textS 2 65535 u3' = (a, b) := ⟨_, _, rfl⟩
              have hgo2 : listS (putS 255 s.size 65535) true (j + 1) t1 = ((listS (putS 255 s.size 65535) true j t1).1 ++ [(⟨str8 tq, id, gotPr tx, str8 tb⟩ : PutE)], u4') := by
                rw [hgo]
                unfold putS
                simp only []
                rw [hq1]
                simp only []
                rw [hq2]
                simp only []
                rw [hq3]
                simp only []
                rw [hq4]
              have l1' : lenS u1' ≤ 40000 := by have := lenS_text 1 255 (some l); rw [hq1] at this; exact Nat.le_trans this hll
              have l2' : lenS u2' ≤ 40000 := by have := lenS_num 8 u1'; rw [hq2] at this; exact Nat.le_trans this l1'
              have l3' : lenS u3' ≤ 40000 := by have := lenS_text 4 s.size u2'; rw [hq3] at this; exact Nat.le_trans this l2'
              have z1 : tq.length ≤ 40000 := by have := textS_le2 1 255 (some l); rw [hq1] at this; exact Nat.le_trans this hll
              have z3 : tx.length ≤ 40000 := by have := textS_le2 4 s.size u2'; rw [hq3] at this; exact Nat.le_trans this l2'
              have z4 : tb.length ≤ 40000 := by have := textS_le2 2 65535 u3'; rw [hq4] at this; exact Nat.le_trans this l3'
              have z2 : id < 18446744073709551616 := by have := numS_lt 8 u1'; rw [hq2] at this; exact this
              have hTX := HPT.out (some l) hll 1 255 (by omega)
              rw [hq1] at hTX
              have hNX := HPN.out u1' l1'
              rw [hq2] at hNX
              have hTP := HPT.out u2' l2' 4 s.size HMS.out
              rw [hq3] at hTP
              have hPG := HPG.out tx z3
              rw [sb_str8] at hPG
              have hTB := HPT.out u3' l3' 2 65535 (by omega)
              rw [hq4] at hTB
              have hqz : (str8 tq).size ≤ 140737488351232 := by rw [str8_size]; omega
              have hbz : (str8 tb).size ≤ 140737488351232 := by rw [str8_size]; omega
              generalize gotPr tx = pr at *
              obtain ⟨key, dur, red, pid, app⟩ := pr
              unfold propV at hPG
              simp only [] at hTX hNX hTP hPG hTB
              generalize str8 tq = q at *
              generalize str8 tb = bd at *
              generalize str8 tx = tp at *
              have HTX := Lib.hid hTX
              have HNX := Lib.hid hNX
              have HTP := Lib.hid hTP
              have HGP := Lib.hid hPG
              have HTB := Lib.hid hTB
              have HGO := Lib.hid hgo2
              have HZ2 := Lib.hid (And.intro hqz (And.intro z2 hbz))
              have HES := Lib.hid hes
              have HP := Lib.hid hP
              clear hTX hNX hTP hPG hTB hgo2 hgo hq1 hq2 hq3 hq4 l1' l2' l3' z1 z2 z3 z4 hqz hbz HFINX hes hP
              have hB1 := below_boxV wr zPut
              have hN1 : BoxW (wr.alloc zPut) wr.heap.size [.string ⟨#[]⟩, .int .u64 0, .string ⟨#[]⟩, .bool false, .bool false, .string ⟨#[]⟩, .int .u8 0, .int .u64 0, .string ⟨#[]⟩, .slice none 0 0, .slice none 0 0, .string ⟨#[]⟩] := heap_alloc_new _ _
              have hQ1 := hQ.step hB1
              have hG1 : wr.grownBy (wr.alloc zPut) (some g) := grown_of_below hB1
              have hbr : b < wr.heap.size := hQ.box.lt
              have hgb := hQ.gb
              obtain ⟨V1, hV1⟩ : ∃ V1, V1 = wr.alloc zPut := ⟨_, rfl⟩
              rw [← hV1] at hN1 hQ1 hG1
              clear hQ hB1
              go_upto_region 19 with fail
              rw [← hV1]
              clear hV1 hsp
              have HRR := Lib.hid (show wr.heap.size ≤ wr.heap.size ∧ b + 1 ≤ wr.heap.size from ⟨Nat.le_refl _, hbr⟩)
              have HPU := Lib.hid (fun (V W6 : World) (v' : Value) (c0 : PutC) (hg : wr.grownBy V (some g)) (hc : PutAt (lowm wr.heap.size V) c0) (W5 : World) (h5 : Below V.heap.size V W5) (ho : OwnG putC 67 W6 (b + 1) v' (cs ++ [c0])) (h6 : W5.grownBy W6 (Value.slice A cs.length c).ownBlock) (hv : v'.ownBlock = (Value.slice A cs.length c).ownBlock ∨ v'.ownBlock = some W5.heap.size) => PRow.push HP.out hbr hg (by omega) hc h5 ho h6 hv)
              have HPO := Lib.hid (fun (V : World) (hg : wr.grownBy V (some g)) => (HP.out.grown hg (by omega)).own)
              have HPF := Lib.hid HP.out.own.form
              have HSN := Lib.hid (fun (V : World) (hg : wr.grownBy V (some g)) (i : Nat) (vs : List Value) => setN_grown hg (Nat.le_refl wr.heap.size) i vs)
              have HSZ := Lib.hid (fun (V : World) (hg : wr.grownBy V (some g)) => (show wr.heap.size ≤ V.heap.size from hg.size))
              have hrV : wr.heap.size < V1.heap.size := (Array.getElem?_eq_some_iff.1 hN1).1
              generalize wr.heap.size = r at *
              go_wp2_with fail
              refine (HTX.out _ _ _ hQ1.rd).mono ?_
              rintro e w2 ⟨rfl, hr2, hg2⟩
              have hQ2 := hQ1.read hr2 hg2
              have hG2 := grown_trans' hG1 hg2
              have hN2 := hN1.read hg2 (by omega)
              have c0 := hN2.cell 0
              have f0 := hN2.fr 0
              have hN3 := hN2.set 0 (.string q)
              have hQ3 := hQ2.setN1 hbr 0 (.string q)
              have hG3 := HSN.out w2 hG2 0 [.string q]
              simp only [List.set_cons_zero, List.getElem?_cons_zero] at hN3 c0
              unfold setN setN at hG3
              have hz2 := hg2.size
              obtain ⟨V3, hV3⟩ : ∃ V3, V3 = w2.setCell ⟨r, 0, none⟩ (.string q) := ⟨_, rfl⟩
              have hz3 : w2.heap.size ≤ V3.heap.size := by rw [hV3]; simp
              rw [← hV3] at hN3 hQ3 hG3
              clear hQ2 hN2 hQ1 hN1 hr2 hg2 hG1 hG2
              go_upto_region 20 with fail
              rw [← hV3]
              clear hV3 c0 f0
              go_wp2_with fail
              refine (HNX.out _ _ _ hQ3.rd).mono ?_
              rintro e w4 ⟨rfl, hr4, hg4⟩
              have hQ4 := hQ3.read hr4 hg4
              have hG4 := grown_trans' hG3 hg4
              have hN4 := hN3.read hg4 (by omega)
              have c1 := hN4.cell 1
              have f1 := hN4.fr 1
              have hN5 := hN4.set 1 (.int .u64 id)
              have hQ5 := hQ4.setN1 hbr 1 (.int .u64 id)
              have hG5 := HSN.out w4 hG4 1 [.int .u64 id]
              simp only [List.set_cons_succ, List.set_cons_zero, List.getElem?_cons_succ, List.getElem?_cons_zero] at hN5 c1
              unfold setN setN at hG5
              have hz4 := hg4.size
              obtain ⟨V5, hV5⟩ : ∃ V5, V5 = w4.setCell ⟨r, 1, none⟩ (.int .u64 id) := ⟨_, rfl⟩
              have hz5 : w4.heap.size ≤ V5.heap.size := by rw [hV5]; simp
              rw [← hV5] at hN5 hQ5 hG5
              clear hQ3 hN3 hQ4 hN4 hr4 hg4 hG3 hG4
              go_upto_region 21 with fail
              rw [← hV5]
              clear hV5 c1 f1
              go_wp2_with fail
              refine (HTP.out _ _ _ hQ5.rd).mono ?_
              rintro e w6 ⟨rfl, hr6, hg6⟩
              have hQ6 := hQ5.read hr6 hg6
              have hG6 := grown_trans' hG5 hg6
              have hN6 := hN5.read hg6 (by omega)
              have hz6 := hg6.size
              clear hQ5 hN5 hr6 hg6 hG5
              go_wp2_with fail
              refine (HGP.out _).mono ?_
              rintro e w7 ⟨hb7, ⟨xk, xn, xs, a3, n3, c3, a4, n4, c4⟩, E7, rfl, hs7⟩
              simp only [] at hs7 ⊢
              have hQ7 := hQ6.step hb7
              have hG7 := grown_trans' hG6 (grown_of_below (r := some g) hb7)
              have hN7 := hN6.kept hb7 (by omega)
              have hz7 := hb7.size
              have k2 := hN7.cell 2
              have k3 := hN7.cell 3
              have k4 := hN7.cell 4
              have k5 := hN7.cell 5
              have k6 := hN7.cell 6
              have k7 := hN7.cell 7
              have k8 := hN7.cell 8
              have k9 := hN7.cell 9
              have k10 := hN7.cell 10
              have fq := hN7.fr
              have hN9 := BoxW.sets [.string key, .bool dur, .bool red, .string pid, .int .u8 xk, .int .u64 xn, .string xs, .slice a3 n3 c3, .slice a4 n4 c4] 2 hN7
              have hQ9 := QE.setN hbr [.string key, .bool dur, .bool red, .string pid, .int .u8 xk, .int .u64 xn, .string xs, .slice a3 n3 c3, .slice a4 n4 c4] 2 w7 hQ7
              have hG9 := HSN.out w7 hG7 2 [.string key, .bool dur, .bool red, .string pid, .int .u8 xk, .int .u64 xn, .string xs, .slice a3 n3 c3, .slice a4 n4 c4]
              have hS9 := hs7.sub (setN_sub (show r < w6.heap.size by omega) [.string key, .bool dur, .bool red, .string pid, .int .u8 xk, .int .u64 xn, .string xs, .slice a3 n3 c3, .slice a4 n4 c4] 2 w7)
              unfold setsL setsL setsL setsL setsL setsL setsL setsL setsL setsL at hN9
              simp only [List.set_cons_succ, List.set_cons_zero, Nat.reduceAdd] at hN9
              simp only [List.getElem?_cons_succ, List.getElem?_cons_zero] at k2 k3 k4 k5 k6 k7 k8 k9 k10
              unfold setN setN setN setN setN setN setN setN setN setN at hQ9 hG9 hS9 hN9
              simp only [Nat.reduceAdd] at hQ9 hG9 hS9 hN9
              obtain ⟨V9, hV9⟩ : ∃ V9, V9 = ((((((((w7.setCell ⟨r, 2, none⟩ (.string key)).setCell ⟨r, 3, none⟩ (.bool dur)).setCell ⟨r, 4, none⟩ (.bool red)).setCell ⟨r, 5, none⟩ (.string pid)).setCell ⟨r, 6, none⟩ (.int .u8 xk)).setCell ⟨r, 7, none⟩ (.int .u64 xn)).setCell ⟨r, 8, none⟩ (.string xs)).setCell ⟨r, 9, none⟩ (.slice a3 n3 c3)).setCell ⟨r, 10, none⟩ (.slice a4 n4 c4) := ⟨_, rfl⟩
              have hz9 : w7.heap.size ≤ V9.heap.size := by rw [hV9]; simp
              rw [← hV9] at hN9 hQ9 hG9 hS9
              have f2 := fq 2
              have f3 := fq 3
              have f4 := fq 4
              have f5 := fq 5
              have f6 := fq 6
              have f7 := fq 7
              have f8 := fq 8
              have f9 := fq 9
              have f10 := fq 10
              have HS9 := Lib.hid hS9
              clear fq hs7 hQ7 hN7 hQ6 hN6 hb7 hG6 hG7 hS9
              go_upto_region 23 with fail
              rw [← hV9]
              clear hV9 k2 k3 k4 k5 k6 k7 k8 k9 k10 f2 f3 f4 f5 f6 f7 f8 f9 f10
              go_wp2_with fail
              refine (HTB.out _ _ _ hQ9.rd).mono ?_
              rintro e wA ⟨rfl, hrA, hgA⟩
              have hQA := hQ9.read hrA hgA
              have hGA := grown_trans' hG9 hgA
              have hNA := hN9.read hgA (by omega)
              have cB := hNA.cell 11
              have fB := hNA.fr 11
              have hNB := hNA.set 11 (.string bd)
              have hQB := hQA.setN1 hbr 11 (.string bd)
              have hGB := HSN.out wA hGA 11 [.string bd]
              have hSB := (HS9.out.sub (low_sub hgA.size fun k _ hk => hgA.block k hk (fun e => by have := Option.some.inj e; omega))).sub (setN_sub (show r < w6.heap.size by omega) [.string bd] 11 wA)
              simp only [List.set_cons_succ, List.set_cons_zero, List.getElem?_cons_succ, List.getElem?_cons_zero] at hNB cB
              unfold setN setN at hGB hSB
              have hzA := hgA.size
              obtain ⟨VB, hVB⟩ : ∃ VB, VB = wA.setCell ⟨r, 11, none⟩ (.string bd) := ⟨_, rfl⟩
              have hzB : wA.heap.size ≤ VB.heap.size := by rw [hVB]; simp
              rw [← hVB] at hNB hQB hGB hSB
              have hSC : PutAt (lowm r VB) ⟨⟨q, id, ⟨key, dur, red, pid, app⟩, bd⟩, ⟨xk, xn, xs, a3, n3, c3, a4, n4, c4⟩⟩ := ⟨HZ2.out.1, HZ2.out.2.1, hSB.sub (low_anti (by omega)), HZ2.out.2.2⟩
              have HSC := Lib.hid hSC
              clear hQ9 hN9 hrA hgA hG9 hGA hQA hNA hSB hSC
              go_upto_region 24 with fail
              rw [← hVB]
              clear hVB cB fB
              have hbC := below_boxV VB (Obj.cells #[.string q, .int .u64 id, .string key, .bool dur, .bool red, .string pid, .int .u8 xk, .int .u64 xn, .string xs, .slice a3 n3 c3, .slice a4 n4 c4, .string bd] 67)
              have hm : ShowsG putC (VB.alloc (Obj.cells #[.string q, .int .u64 id, .string key, .bool dur, .bool red, .string pid, .int .u8 xk, .int .u64 xn, .string xs, .slice a3 n3 c3, .slice a4 n4 c4, .string bd] 67)) VB.heap.size (.slice (some ⟨VB.heap.size, 0, none⟩) 1 1) [(⟨⟨q, id, ⟨key, dur, red, pid, app⟩, bd⟩, ⟨xk, xn, xs, a3, n3, c3, a4, n4, c4⟩⟩ : PutC)] := ShowsG.lit (C := putC) [(⟨⟨q, id, ⟨key, dur, red, pid, app⟩, bd⟩, ⟨xk, xn, xs, a3, n3, c3, a4, n4, c4⟩⟩ : PutC)] (by simp [Code.all, putC, PutC.vs]) (by simp [maxLen])
              have hoC := (HPO.out VB hGB).alloc_ (Obj.cells #[.string q, .int .u64 id, .string key, .bool dur, .bool red, .string pid, .int .u8 xk, .int .u64 xn, .string xs, .slice a3 n3 c3, .slice a4 n4 c4, .string bd] 67)
              have hQC := hQB.step hbC
              have hzC := hbC.size
              have c6 := hQB.box.cells.2.2.1
              have f6 := hQB.box.fr 6
              simp only [] at c6
              have y0 := hNB.cell 0
              have y1 := hNB.cell 1
              have y2 := hNB.cell 2
              have y3 := hNB.cell 3
              have y4 := hNB.cell 4
              have y5 := hNB.cell 5
              have y6 := hNB.cell 6
              have y7 := hNB.cell 7
              have y8 := hNB.cell 8
              have y9 := hNB.cell 9
              have y10 := hNB.cell 10
              have y11 := hNB.cell 11
              simp only [List.getElem?_cons_succ, List.getElem?_cons_zero] at y0 y1 y2 y3 y4 y5 y6 y7 y8 y9 y10 y11
              have HBC := Lib.hid hbC
              have HQC := Lib.hid hQC
              have HGB := Lib.hid hGB
              clear hbC hQC hGB hQB hNB HP
              go_wp2_with (at_builtin
                           refine wpList_appendW putC _ rfl (.tmp 96) (.tmp 98) 26 rfl (b + 1) 67 _ 160 Tryz.underlying26 infoPut rfl _ _ rfl hoC _ _ _ rfl hm (by simp) (by simp only [List.length_singleton]; omega) (by simp only [List.length_singleton]; omega) (by omega) ?_
                           intro vD wD hoD hgD hvD
                           obtain ⟨AD, cD, hvD', hcD⟩ := hoD.form
                           subst hvD'
                           have hQD := HQC.out.grow hgD (fun k hk => by have := (hoC.block k hk).1; omega)
                           have d6 := hQD.box.cells.2.2.1
                           simp only [] at d6
                           have g6 := hQD.box.fr 6
                           clear c6 f6 y0 y1 y2 y3 y4 y5 y6 y7 y8 y9 y10 y11)
              have hPD := HPU.out VB wD _ _ HGB.out HSC.out _ HBC.out hoD hgD hvD
              have h9 := hQD.set 6 (.slice AD (cs ++ [(⟨⟨q, id, ⟨key, dur, red, pid, app⟩, bd⟩, ⟨xk, xn, xs, a3, n3, c3, a4, n4, c4⟩⟩ : PutC)]).length cD) (hQD.box.sps AD cD (cs ++ [(⟨⟨q, id, ⟨key, dur, red, pid, app⟩, bd⟩, ⟨xk, xn, xs, a3, n3, c3, a4, n4, c4⟩⟩ : PutC)]))
              rw [List.length_append, List.length_singleton] at h9
              go_roundw
              case rel => exact ⟨j + 1, AD, cD, cs ++ [(⟨⟨q, id, ⟨key, dur, red, pid, app⟩, bd⟩, ⟨xk, xn, xs, a3, n3, c3, a4, n4, c4⟩⟩ : PutC)], by omega, by go_num, by rw [HGO.out, esOf_snoc, HES.out], by rw [HGO.out]; exact h9, hPD.grown (grown_set (g := b) 6 _) (Nat.lt_succ_self b), by rw [List.length_append, List.length_singleton]; omega⟩
              case measure => simp [intOf]; omega
          · have hkc : ¬ (j : Int) < (C1 : Int) := by omega
            obtain rfl : j = C1 := by omega
            have HX := Lib.hid (HFINX.out rfl)
            clear HFINX hQ hP hes
            go_wp2_with fail
            go_meet
            case rel => exact HX.out
      case rest =>
      rename World => WC
      clear hQB
      obtain ⟨A, c, cs, hes, hQC, hPC, hcl⟩ := hcut
      have hl4 : lenS s4 ≤ 40000 := by rw [hs4]; exact Nat.le_trans (lenS_listS _ _ (lenS_putS _ _ _) _ _) HW.out.2.2.2.2.1
      go_wp2_with fail
      refine (HC2.out hl4 _ _ _ hQC.rd).mono ?_
      rintro e wD ⟨rfl, hrD, hgD⟩
      have hQD := hQC.read hrD hgD
      have hPD := hPC.grown hgD (by have := hQC.gb; omega)
      clear hQC hPC hrD hgD
      go_wp2_with fail
      -- the loop over the names
      obtain ⟨A', n', hv', hRP⟩ := hPD.row (by omega)
      obtain ⟨rfl, rfl⟩ : A = A' ∧ c = n' := by injection hv' with h1 h2 h3; exact ⟨h1, h3⟩
      clear hv' hPD
      obtain ⟨B2, hB2⟩ : ∃ B2, B2 = wD.heap.size := ⟨_, rfl⟩
      have hbB2 : b < B2 := by rw [hB2]; exact hQD.box.lt
      have HRT := Lib.hid (fun (t : St) (hl : lenS t ≤ 40000) g d w' (hr : QS w' g d t) => qtext_any g d t 1 255 w' hr (by omega) (by omega) (by omega))
      have HRN := Lib.hid (fun (t : St) (hl : lenS t ≤ 40000) g d w' (hr : QS w' g d t) => qnum_any g d t 8 w' hr (by omega))
      have lt2 : ∀ j, lenS (listS (refS 255) true j t2).2 ≤ 40000 := fun j => Nat.le_trans (lenS_listS _ _ (lenS_ref 255) _ _) (Nat.le_trans HW.out.2.2.2.2.2 hl4)
      have HLT := Lib.hid (And.intro lt2 hRP)
      clear lt2 hRP
      go_loopw [18] (fun iv wr => ∃ (j : Nat) (A2 : Option Addr) (c2 : Nat) (rs : List RefE), j ≤ C2 ∧ iv = .int .u64 j ∧ rs = (listS (refS 255) true j t2).1 ∧ QE w g d b ⟨k, nm, n, xf, xg, xh, A, c, cs, A2, c2, rs⟩ (listS (refS 255) true j t2).2 wr ∧ OwnG refC 48 wr B2 (.slice A2 rs.length c2) rs ∧ (∀ i (h : i < rs.length), RefAt rs[i]) ∧ wD.heap.size ≤ wr.heap.size ∧ ∀ i, b < i → i < B2 → wr.heap[i]? = wD.heap[i]?) (fun iv _ => C2 - (intOf iv).toNat)
      case atStart => exact ⟨0, none, 0, [], by omega, rfl, rfl, hQD, OwnG.nil_ _ _ _ _, fun i h => absurd h (by simp), Nat.le_refl _, fun _ _ _ => rfl⟩
      case round =>
        rename World => wr
        obtain ⟨j, A2, c2, rs, hj, rfl, hrs, hQ, hO, hat, hwr, hsame⟩ := hrel
        have hsp := hQ.rd.spent
        have HFINX := Lib.hid (show listS (refS 255) true C2 t2 = listS (refS 255) true j t2 → ∃ (A : Option Addr) (c : Nat) (cs : List PutC) (A2 : Option Addr) (c2 : Nat) (rs : List RefE), esOf cs = ps ∧ rs = ts ∧ QE w g d b ⟨k, nm, n, xf, xg, xh, A, c, cs, A2, c2, rs⟩ s5 wr ∧ RowP (lowm (b + 1) wr) A c cs ∧ RowR (lowm (b + 1) wr) A2 c2 rs from fun hfin => by
          obtain ⟨dr, _, hdr⟩ := (hO.low (show b + 1 ≤ B2 by omega)).shows
          refine ⟨A, c, cs, A2, c2, rs, hes, by rw [hts, hrs, hfin], by rw [hs5, hfin]; exact hQ, HLT.out.2.sub (low_sub hwr fun i hi hil => hsame i (by omega) (by omega)), ⟨⟨dr, hdr⟩, hat, ?_⟩⟩
          have h1 := listS_le (refS 255) t2 j
          rw [← hrs] at h1
          have := HW.out.2.2.2.1
          omega)
        by_cases hlt : j < C2
        · have hkc : (j : Int) < (C2 : Int) := by omega
          cases hst : (listS (refS 255) true j t2).2 with
          | none =>
            rw [hst] at hsp
            simp only [Option.isNone_none] at hsp
            have HX := Lib.hid (HFINX.out (by have := listS_stop (refS 255) t2 j hst (C2 - j); rwa [show j + (C2 - j) = C2 by omega] at this))
            clear HFINX hQ hO hat hsame hrs
            go_wp2_with fail
            go_meet
            case rel => exact HX.out
          | some l =>
            rw [hst] at hsp hQ
            simp only [Option.isNone_some] at hsp
            have hll : lenS (some l) ≤ 40000 := by have := HLT.out.1 j; rwa [hst] at this
            have hgo := listS_go (refS 255) t2 j (by rw [hst]; exact fun h => by cases h)
            rw [hst] at hgo
            have hrl : rs.length ≤ j := by rw [hrs]; exact listS_le _ _ _
            obtain ⟨q, hq⟩ : ∃ q, q = str8 (textS 1 255 (some l)).1 := ⟨_, rfl⟩
            obtain ⟨id, hid⟩ : ∃ id, id = (numS 8 (textS 1 255 (some l)).2).1 := ⟨_, rfl⟩
            have hqz : q.size ≤ 140737488351232 := by rw [hq, str8_size]; exact Nat.le_trans (textS_le2 _ _ _) (by omega)
            have hidl : id < 18446744073709551616 := by rw [hid]; exact numS_lt 8 _
            have hll2 : lenS (textS 1 255 (some l)).2 ≤ 40000 := Nat.le_trans (lenS_text _ _ _) hll
            have hTX := HRT.out (some l) hll
            have hNX := HRN.out (textS 1 255 (some l)).2 hll2
            have hgo2 : listS (refS 255) true (j + 1) t2 = (rs ++ [(⟨q, id⟩ : RefE)], (numS 8 (textS 1 255 (some l)).2).2) := by rw [hgo, hrs, hq, hid]; rfl
            rw [← hq] at hTX
            rw [← hid] at hNX
            generalize (numS 8 (textS 1 255 (some l)).2).2 = u2 at *
            generalize (textS 1 255 (some l)).2 = u1' at *
            have HTX := Lib.hid hTX
            have HNX := Lib.hid hNX
            have HGO := Lib.hid hgo2
            have HQI := Lib.hid (And.intro hqz hidl)
            have HAT := Lib.hid hat
            clear hTX hNX hgo2 hgo hq hid hll2 hqz hidl hat HFINX hrs
            have hB1 := below_boxV wr (Obj.cells #[.string ⟨#[]⟩, .int .u64 0] 48)
            have hN1 : BoxN (wr.alloc (Obj.cells #[.string ⟨#[]⟩, .int .u64 0] 48)) wr.heap.size ⟨#[]⟩ 0 := heap_alloc_new _ _
            have hQ1 := hQ.step hB1
            obtain ⟨V1, hV1⟩ : ∃ V1, V1 = wr.alloc (Obj.cells #[.string ⟨#[]⟩, .int .u64 0] 48) := ⟨_, rfl⟩
            rw [← hV1] at hB1 hN1 hQ1
            have hbr : b < wr.heap.size := hQ.box.lt
            have hgb := hQ.gb
            have hs1 : ∀ i, b < i → i < wr.heap.size → V1.heap[i]? = wr.heap[i]? := fun i _ h2 => hB1.block i h2
            have hz1 := hB1.size
            clear hQ hB1
            go_upto_region 30 with fail
            rw [← hV1]
            clear hV1 hsp
            have hOb := hO.block
            generalize wr.heap.size = r at *
            go_wp2_with fail
            refine (HTX.out _ _ _ hQ1.rd).mono ?_
            rintro e w2 ⟨rfl, hr2, hg2⟩
            have hQ2 := hQ1.read hr2 hg2
            have hne2 : ∀ i, b < i → i < V1.heap.size → w2.heap[i]? = V1.heap[i]? := fun i h1 h2 => hg2.block i h2 (fun e => by have := Option.some.inj e; omega)
            have hN2 : BoxN w2 r ⟨#[]⟩ 0 := (hne2 r hbr (Array.getElem?_eq_some_iff.1 hN1).1).trans hN1
            have c0 := cell_of_row w2 r 0 _ 48 (0, 0) hN2
            have f0 := frozen_of_row w2 r 0 _ 48 hN2
            have hN3 : BoxN (w2.setCell ⟨r, 0, none⟩ (.string q)) r q 0 := heap_setCell_same w2 r 0 _ 48 (.string q) hN2
            have hQ3 := hQ2.grow (grown_set (g := r) 0 (.string q)) (fun i hi => by cases hi; exact hbr)
            have hne3 : ∀ i, i ≠ r → (w2.setCell ⟨r, 0, none⟩ (.string q)).heap[i]? = w2.heap[i]? := fun i hi => Below.heap_setCell _ _ _ _ (by show i ≠ r; exact hi)
            have hz2 := hg2.size
            have hz3 : w2.heap.size ≤ (w2.setCell ⟨r, 0, none⟩ (.string q)).heap.size := by simp
            obtain ⟨V3, hV3⟩ : ∃ V3, V3 = w2.setCell ⟨r, 0, none⟩ (.string q) := ⟨_, rfl⟩
            rw [← hV3] at hN3 hQ3 hne3 hz3
            clear hQ2 hN2 hQ1 hN1 hr2 hg2
            go_upto_region 31 with fail
            rw [← hV3]
            clear hV3 c0 f0
            go_wp2_with fail
            refine (HNX.out _ _ _ hQ3.rd).mono ?_
            rintro e w4 ⟨rfl, hr4, hg4⟩
            have hQ4 := hQ3.read hr4 hg4
            have hne4 : ∀ i, b < i → i < V3.heap.size → w4.heap[i]? = V3.heap[i]? := fun i h1 h2 => hg4.block i h2 (fun e => by have := Option.some.inj e; omega)
            have hN4 : BoxN w4 r q 0 := (hne4 r hbr (Array.getElem?_eq_some_iff.1 hN3).1).trans hN3
            have c1 := cell_of_row w4 r 1 _ 48 (0, 0) hN4
            have f1 := frozen_of_row w4 r 1 _ 48 hN4
            have hN5 : BoxN (w4.setCell ⟨r, 1, none⟩ (.int .u64 id)) r q id := heap_setCell_same w4 r 1 _ 48 (.int .u64 id) hN4
            have hQ5 := hQ4.grow (grown_set (g := r) 1 (.int .u64 id)) (fun i hi => by cases hi; exact hbr)
            have hne5 : ∀ i, i ≠ r → (w4.setCell ⟨r, 1, none⟩ (.int .u64 id)).heap[i]? = w4.heap[i]? := fun i hi => Below.heap_setCell _ _ _ _ (by show i ≠ r; exact hi)
            have hz4 := hg4.size
            have hz5 : w4.heap.size ≤ (w4.setCell ⟨r, 1, none⟩ (.int .u64 id)).heap.size := by simp
            obtain ⟨V5, hV5⟩ : ∃ V5, V5 = w4.setCell ⟨r, 1, none⟩ (.int .u64 id) := ⟨_, rfl⟩
            rw [← hV5] at hN5 hQ5 hne5 hz5
            have hsv : ∀ i, b < i → i < r → V5.heap[i]? = V1.heap[i]? := fun i h1 h2 => by
              have hr1 : r ≤ V1.heap.size := hz1
              rw [hne5 i (by omega), hne4 i h1 (by omega), hne3 i (by omega), hne2 i h1 (by omega)]
            have hz15 : V1.heap.size ≤ V5.heap.size := by omega
            clear hQ3 hN3 hQ4 hN4 hr4 hg4 hne2 hne3 hne4 hne5
            go_upto_region 32 with fail
            rw [← hV5]
            clear hV5 c1 f1
            have hO5 : OwnG refC 48 V5 B2 (.slice A2 rs.length c2) rs := hO.keep fun i hi => by
              have h9 := hOb i hi
              exact (hsv i (by omega) h9.2).trans (hs1 i (by omega) h9.2)
            have hsameV : ∀ i, b < i → i < B2 → V5.heap[i]? = wD.heap[i]? := fun i h1 h2 => (hsv i h1 (by omega)).trans ((hs1 i h1 (by omega)).trans (hsame i h1 h2))
            have hb6 := below_boxV V5 (Obj.cells #[.string q, .int .u64 id] 48)
            have hm : ShowsG refC (V5.alloc (Obj.cells #[.string q, .int .u64 id] 48)) V5.heap.size (.slice (some ⟨V5.heap.size, 0, none⟩) 1 1) [(⟨q, id⟩ : RefE)] := ShowsG.lit (C := refC) [(⟨q, id⟩ : RefE)] (by simp [Code.all, refC, RefE.vs]) (by simp [maxLen])
            have ho6 : OwnG refC 48 (V5.alloc (Obj.cells #[.string q, .int .u64 id] 48)) B2 (.slice A2 rs.length c2) rs := hO5.alloc_ _
            have hQ6 := hQ5.step hb6
            have hz6 := hb6.size
            have c7 := hQ5.box.cells.2.2.2
            have f7 := hQ5.box.fr 7
            simp only [] at c7
            have y0 := cell_of_row V5 r 0 _ 48 (0, 0) hN5
            have y1 := cell_of_row V5 r 1 _ 48 (0, 0) hN5
            have hC2 := HW.out.2.2.2.1
            have HB6 := Lib.hid hb6
            have HQ6 := Lib.hid hQ6
            clear hO hO5 hsv hs1 hsame hOb hb6 hQ6 hQ5 hN5
            go_wp2_with (at_builtin
                         refine wpList_appendW refC _ rfl (.tmp 122) (.tmp 124) 27 rfl B2 48 _ 24 Tryz.underlying27 infoRef rfl _ _ rfl ho6 _ _ _ rfl hm (by simp) (by simp only [List.length_singleton]; omega) (by simp only [List.length_singleton]; omega) (by omega) ?_
                         intro v7 w7 ho7 hg7 hv7
                         obtain ⟨A7, c7', hv7', hc7⟩ := ho7.form
                         subst hv7'
                         have hQ7 := HQ6.out.grow hg7 (fun k hk => by have := (ho6.block k hk).1; omega)
                         have d7 := hQ7.box.cells.2.2.2
                         simp only [] at d7
                         have g7 := hQ7.box.fr 7
                         clear c7 f7 y0 y1)
            have h9 := hQ7.set 7 (.slice A7 (rs ++ [(⟨q, id⟩ : RefE)]).length c7') (hQ7.box.sts A7 c7' (rs ++ [(⟨q, id⟩ : RefE)]))
            rw [List.length_append, List.length_singleton] at h9
            go_roundw
            case rel => exact ⟨j + 1, A7, c7', rs ++ [(⟨q, id⟩ : RefE)], by omega, by go_num, by rw [HGO.out], by rw [HGO.out]; exact h9, ho7.keep (fun i hi => Below.heap_setCell _ _ _ _ (by have := (ho7.block i hi).1; show i ≠ b; omega)), (fun i hi => by
              by_cases hic : i < rs.length
              · rw [List.getElem_append_left hic]; exact HAT.out i hic
              · have hi0 : i = rs.length := by rw [List.length_append, List.length_singleton] at hi; omega
                subst hi0
                rw [List.getElem_append_right (Nat.le_refl _)]
                simp only [Nat.sub_self, List.getElem_cons_zero]
                exact HQI.out), by have := hg7.size; rw [World.size_setCell]; omega, fun i h1 h2 => (Below.heap_setCell _ _ _ _ (by show i ≠ b; omega)).trans ((hg7.block i (by omega) (fun e => by have := (ho6.block i e.symm).1; omega)).trans ((HB6.out.block i (by omega)).trans (hsameV i h1 h2)))⟩
            case measure => simp [intOf]; omega
        · have hkc : ¬ (j : Int) < (C2 : Int) := by omega
          obtain rfl : j = C2 := by omega
          have HX := Lib.hid (HFINX.out rfl)
          clear HFINX hQ hO hat hsame hrs
          go_wp2_with fail
          go_meet
          case rel => exact HX.out
  case rest =>
  rename World => W9
  obtain ⟨A, c, cs, A2, c2, rs, hes, hts, hQ, hrp, hrr⟩ := hcut
  clear hQ8
  have hye : EntC.e ⟨k, nm, n, xf, xg, xh, A, c, cs, A2, c2, rs⟩ = D := by
    rw [HDEC.out, ← hes, ← hts]
    rfl
  have hz := HZ.out
  have hwl := hQ.gb
  have hgl := hQ.gw
  have HSY := Lib.hid (show ∀ w', Below W9.heap.size W9 w' → ShowsE (lowm (b + 1) w') ⟨k, nm, n, xf, xg, xh, A, c, cs, A2, c2, rs⟩ from fun w' hb' => ⟨hz.1, hz.2.1, hz.2.2.1, hz.2.2.2.1, hz.2.2.2.2.1, hz.2.2.2.2.2, hrp.sub (low_sub hb'.size fun k _ hk => hb'.block k hk), hrr.sub (low_sub hb'.size fun k _ hk => hb'.block k hk)⟩)
  have hput := qeput_any _ W9 ((HSY.out W9 (Below.refl _ _)).sub (low_out _ _))
  rw [hye] at hput
  have HPUT := Lib.hid hput
  have HYE := Lib.hid hye
  obtain ⟨⟨q0, q1, q2⟩, ⟨q3, q4, q5⟩, q6, q7⟩ := hQ.box.cells
  simp only [] at q0 q1 q2 q3 q4 q5 q6 q7
  unfold entV at HPUT
  simp only [] at HPUT
  clear hes hts hrp hrr hput hye hz
  go_wp2_with fail
  refine HPUT.out.mono ?_
  rintro e WA ⟨rfl, hbA⟩
  have hQA := hQ.step hbA
  have hRA := hQA.res
  have hbel := hQA.bel
  obtain ⟨⟨⟨z0, z1, z2, z3⟩, ⟨z4, z5, z6, z7⟩⟩, ⟨⟨f0, f1, f2, f3⟩, ⟨f4, f5, f6, f7⟩⟩⟩ := ent_zero hRA
  have HBADW := Lib.hid (show getE (sb s) = none → ∀ w', w' = set8 WA w.heap.size (.int .u8 0) (.string ⟨#[]⟩) (.int .u64 0) (.int .u32 0) (.string ⟨#[]⟩) (.string ⟨#[]⟩) (.slice none 0 0) (.slice none 0 0) → w'.heap[w.heap.size]? = some zEnt ∧ ShowsE (lowm w.heap.size w') zC ∧ Below w.heap.size w w' ∧ getE (sb s) = none from fun hn w' hw' => by
    rw [hw']
    exact ⟨set8_row _ _ _ _ _ _ _ _ hRA, zC_shows _, set8_below hbel (Nat.le_refl _) _ _ _ _ _ _ _ _, hn⟩)
  unfold set8 at HBADW
  by_cases hv : validE D
  case neg =>
    rw [errE_no hv, putE_no hv]
    have HN := Lib.hid (HBADW.out (HNO.out (fun h => hv h.1)) _ rfl)
    clear HBADW
    go_wp2_with fail
    obtain ⟨hn1, hn2, hn3, hn4⟩ := HN.out
    exact bodyPost_ret (results_cell_tmp rfl _ _ w.heap.size 29 _ (0, 0) _ rfl hn1 Tryz.underlying29 rfl (by kernel_rfl)) rfl ⟨zC, 130, rfl, hn2, hn3, .inl ⟨hn4, rfl, rfl⟩⟩
  obtain ⟨eqb, heq⟩ : ∃ eqb, eqb = decide (encE D = sb s) := ⟨_, rfl⟩
  have hT : ((str8 (encE D)).toList == s.toList) = eqb := by
    rw [str8_toList, sb_toList, heq, Bool.eq_iff_iff]
    simp
  rw [errE_ok hv, putE_ok hv]
  generalize str8 (encE D) = T at *
  cases eqb with
  | false =>
    have HN := Lib.hid (HBADW.out (HNO.out (fun h => by rw [decide_eq_true h.2] at heq; cases heq)) _ rfl)
    clear HBADW heq
    go_wp2_with fail
    obtain ⟨hn1, hn2, hn3, hn4⟩ := HN.out
    exact bodyPost_ret (results_cell_tmp rfl _ _ w.heap.size 29 _ (0, 0) _ rfl hn1 Tryz.underlying29 rfl (by kernel_rfl)) rfl ⟨zC, 130, rfl, hn2, hn3, .inl ⟨hn4, rfl, rfl⟩⟩
  | true =>
    have hg := HYES.out hv (of_decide_eq_true heq.symm)
    rw [← HYE.out] at hg
    clear q0 q1 q2 q3 q4 q5 q6 q7 HBADW heq
    obtain ⟨⟨q0, q1, q2⟩, ⟨q3, q4, q5⟩, q6, q7⟩ := hQA.box.cells
    simp only [] at q0 q1 q2 q3 q4 q5 q6 q7
    have h8 := set8_row (.int .u8 k) (.string nm) (.int .u64 n) (.int .u32 xf) (.string xg) (.string xh) (.slice A cs.length c) (.slice A2 rs.length c2) hRA
    have h8b := set8_below hbel (Nat.le_refl w.heap.size) (.int .u8 k) (.string nm) (.int .u64 n) (.int .u32 xf) (.string xg) (.string xh) (.slice A cs.length c) (.slice A2 rs.length c2)
    have h8s := ((HSY.out WA hbA).sub (set8_sub WA w.heap.size (by omega : w.heap.size < b + 1) (.int .u8 k) (.string nm) (.int .u64 n) (.int .u32 xf) (.string xg) (.string xh) (.slice A cs.length c) (.slice A2 rs.length c2))).sub (low_anti (by omega : w.heap.size ≤ b + 1))
    unfold set8 at h8 h8b h8s
    have H8 := Lib.hid (And.intro h8 (And.intro h8b (And.intro h8s hg)))
    clear h8 h8b h8s hg
    go_wp2_with fail
    exact bodyPost_ret (results_cell_tmp rfl _ _ w.heap.size 29 _ (0, 0) _ rfl H8.out.1 Tryz.underlying29 rfl (by kernel_rfl)) rfl ⟨⟨k, nm, n, xf, xg, xh, A, c, cs, A2, c2, rs⟩, 0, rfl, H8.out.2.2.1, H8.out.2.1, .inr ⟨H8.out.2.2.2, rfl⟩⟩
end Go.Proofs.YtdklhcmoilcpgaaGreat
