/-
  A reading's take as a step of a plain machine.
  Conditions: none but sizes.
-/
import Derived.Test.YtalcfglcbpkebaaDoorXiI
namespace Go.Proofs.YtalcfglcbpkebaaDoor
open Go.RowKit
set_option linter.unusedVariables false
set_option linter.unusedSimpArgs false

theorem take_next {w : World} {b p s f h : Nat} {gv bv : Value} {ans : Bool} {Q : World → Prop} (hb : Rd w b p s f h gv bv)
    (hc : Calls Tryd.prog 75 #[.pointer (some ⟨b, 0, none⟩)] w fun e w' => e = .returned (.bool ans) ∧ Q w') :
    Calls Tryd.prog 64 #[.pointer (some ⟨b, 0, none⟩), .int .i32 46] w fun e w' => e = .returned (.bool ans) ∧ Q w' := by
  have HC := Lib.hid hc
  clear hc
  go_enter Tryd.func64, Tryd.ntmps64
  go_wp2_with fail
  refine HC.out.mono ?_
  rintro e w' ⟨rfl, hq⟩
  go_wp2_with fail
  go_ret
  exact ⟨rfl, hq⟩

theorem take_dec {w : World} {b s f h r : Nat} {gv bv : Value} {ans : Bool} {Q : World → Prop} (hb : Rd w b 0 s f h gv bv) (hr : r ≠ 46)
    (hc : Calls Tryd.prog 76 #[.pointer (some ⟨b, 0, none⟩), .int .i32 r] w fun e w' => e = .returned (.bool ans) ∧ Q w') :
    Calls Tryd.prog 64 #[.pointer (some ⟨b, 0, none⟩), .int .i32 r] w fun e w' => e = .returned (.bool ans) ∧ Q w' := by
  have HC := Lib.hid hc
  have k0 := hb.c0
  have t0 : ((r : Int) == 46) = false := by simp; omega
  clear hc hr
  go_enter Tryd.func64, Tryd.ntmps64
  go_wp2_with fail
  refine HC.out.mono ?_
  rintro e w' ⟨rfl, hq⟩
  go_wp2_with fail
  go_ret
  exact ⟨rfl, hq⟩

theorem take_hex4 {w : World} {b s f h r : Nat} {gv bv : Value} {ans : Bool} {Q : World → Prop} (hb : Rd w b 1 s f h gv bv) (hr : r ≠ 46)
    (hc : Calls Tryd.prog 77 #[.pointer (some ⟨b, 0, none⟩), .int .i32 r, .pointer (some ⟨b, 4, none⟩)] w fun e w' => e = .returned (.bool ans) ∧ Q w') :
    Calls Tryd.prog 64 #[.pointer (some ⟨b, 0, none⟩), .int .i32 r] w fun e w' => e = .returned (.bool ans) ∧ Q w' := by
  have HC := Lib.hid hc
  have k0 := hb.c0
  have t0 : ((r : Int) == 46) = false := by simp; omega
  clear hc hr
  go_enter Tryd.func64, Tryd.ntmps64
  go_wp2_with fail
  refine HC.out.mono ?_
  rintro e w' ⟨rfl, hq⟩
  go_wp2_with fail
  go_ret
  exact ⟨rfl, hq⟩

theorem take_hex5 {w : World} {b p s f h r : Nat} {gv bv : Value} {ans : Bool} {Q : World → Prop} (hb : Rd w b p s f h gv bv) (hp : 2 ≤ p) (hr : r ≠ 46)
    (hc : Calls Tryd.prog 77 #[.pointer (some ⟨b, 0, none⟩), .int .i32 r, .pointer (some ⟨b, 5, none⟩)] w fun e w' => e = .returned (.bool ans) ∧ Q w') :
    Calls Tryd.prog 64 #[.pointer (some ⟨b, 0, none⟩), .int .i32 r] w fun e w' => e = .returned (.bool ans) ∧ Q w' := by
  have HC := Lib.hid hc
  have k0 := hb.c0
  have t0 : ((r : Int) == 46) = false := by simp; omega
  have t1 : ((p : Int) == 0) = false := by simp; omega
  have t2 : ((p : Int) == 1) = false := by simp; omega
  clear hc hr hp
  go_enter Tryd.func64, Tryd.ntmps64
  go_wp2_with fail
  refine HC.out.mono ?_
  rintro e w' ⟨rfl, hq⟩
  go_wp2_with fail
  go_ret
  exact ⟨rfl, hq⟩

/-- What a reading has read so far. -/
structure RSt where
  p : Nat
  s : Nat
  f : Nat
  h : Nat
  g : List UInt8
  b : List UInt8

/-- What taking a rune makes of it; none: the text is none's. -/
def stepR (t : RSt) (r : Nat) : Option RSt :=
  if r = 46 then (if t.s = 0 ∨ halfB t.p t.s = true then none else some { t with p := t.p + 1, s := 0 })
  else if t.p = 0 then
    (if ¬ (48 ≤ r ∧ r ≤ 57) ∨ (0 < t.s ∧ t.f = 0) then none
     else if t.f * 10 + (r - 48) ≤ 4294967295 then some { t with s := t.s + 1, f := t.f * 10 + (r - 48) } else none)
  else if ¬ numD r < 16 then none
  else if halfB t.p (t.s + 1) = true then some { t with s := t.s + 1, h := numD r }
  else if t.p = 1 then (if t.g.length + 1 ≤ 64 then some { t with s := t.s + 1, g := t.g ++ [UInt8.ofNat (t.h * 16 + numD r)] } else none)
  else (if t.b.length + 1 ≤ 64 then some { t with s := t.s + 1, b := t.b ++ [UInt8.ofNat (t.h * 16 + numD r)] } else none)

/-- The bounds that a reading keeps. -/
structure OKR (t : RSt) : Prop where
  f : t.f ≤ 4294967295
  h : t.h < 16
  g : t.g.length ≤ 64
  b : t.b.length ≤ 64

theorem OKR.step {t t' : RSt} (ho : OKR t) {r : Nat} (h : stepR t r = some t') : OKR t' := by
  unfold stepR at h
  repeat' split at h
  all_goals first
    | (cases h; done)
    | (simp only [Option.some.injEq] at h; subst h; constructor <;> first | exact ho.f | exact ho.h | exact ho.g | exact ho.b | (simp; omega) | assumption | (rename_i h1 h2 h3; simp; omega))

/-- How what was read lies in memory. -/
structure RdS (w : World) (b base : Nat) (t : RSt) (gv bv : Value) (mid : Nat) : Prop where
  rd : Rd w b t.p t.s t.f t.h gv bv
  og : Own 5 w base gv t.g
  ob : Own 5 w mid bv t.b
  hb : b < base
  lo : base ≤ mid
  hi : mid ≤ w.heap.size
  apart : ∀ x, gv.ownBlock = some x → x < mid
  none_ : t.p ≤ 1 → bv = .slice none 0 0 ∧ t.b = []

theorem own_other {w w' : World} {b B : Nat} {v : Value} {l : List UInt8} {row : Option Nat} (h : Own 5 w B v l) (hc : Chg b row w w') (hb : b < B) (hr : ∀ x, v.ownBlock = some x → row ≠ some x) : Own 5 w' B v l :=
  h.keep fun g hg => hc.block g (h.block g hg).2 (by have := (h.block g hg).1; omega) (hr g hg)
theorem Chg.frm {w w' : World} {b base : Nat} {row : Option Nat} (hc : Chg b row w w') (hw : base ≤ w.heap.size) (hr : ∀ x, row = some x → base ≤ x) : Frm b base w w' :=
  ⟨hc.os, hc.tape, hc.output, hc.size, fun k hk hn => hc.block k (by omega) hn (fun e => by have := hr k e; omega)⟩
theorem Chg.set2 {w w1 : World} {b : Nat} (h : Below w.heap.size w w1) (hb : b < w.heap.size) (i j : Nat) (u v : Value) : Chg b none w ((w1.setCell ⟨b, i, none⟩ u).setCell ⟨b, j, none⟩ v) :=
  ⟨h.os, h.tape, h.output, by simpa using h.size, fun k hk hn _ => (heap_setCell_other _ ⟨b, j, none⟩ k _ hn).trans ((heap_setCell_other _ ⟨b, i, none⟩ k _ hn).trans (h.block k hk))⟩
theorem Frm.belowW {w w' : World} {b base : Nat} (h : Below w.heap.size w w') (hw : base ≤ w.heap.size) : Frm b base w w' := .of (h.mono hw)

/-- What taking leaves. -/
def Took (b base : Nat) (t' : RSt) (w w' : World) : Prop := ∃ gv bv mid, RdS w' b base t' gv bv mid ∧ Frm b base w w'

theorem RdS.same {w w' : World} {b base mid : Nat} {t t'' : RSt} {gv bv : Value} (hR : RdS w b base t gv bv mid) (hc : Chg b none w w') (hrd : Rd w' b t''.p t''.s t''.f t''.h gv bv)
    (hg : t''.g = t.g) (hb : t''.b = t.b) (hp : t''.p ≤ 1 → t.p ≤ 1) : RdS w' b base t'' gv bv mid :=
  { rd := hrd, og := by rw [hg]; exact own_other hR.og hc hR.hb (fun _ _ => by simp), ob := by rw [hb]; exact own_other hR.ob hc (Nat.lt_of_lt_of_le hR.hb hR.lo) (fun _ _ => by simp),
    hb := hR.hb, lo := hR.lo, hi := Nat.le_trans hR.hi hc.size, apart := hR.apart, none_ := fun h => by rw [hb]; exact hR.none_ (hp h) }

theorem take_yes {w : World} {b base : Nat} {t t' : RSt} {gv bv : Value} {mid r : Nat} (hR : RdS w b base t gv bv mid) (ho : OKR t) (hr : r ≤ 2147483647) (hs : t.s < 140737488355328) (hp : t.p ≤ 140737488355328) (h : stepR t r = some t') :
    Calls Tryd.prog 64 #[.pointer (some ⟨b, 0, none⟩), .int .i32 r] w fun e w' => e = .returned (.bool true) ∧ Took b base t' w w' := by
  have hlt := hR.rd.lt
  have hbase : base ≤ w.heap.size := Nat.le_trans hR.lo hR.hi
  have hgb : ∀ x, gv.ownBlock = some x → base ≤ x := fun x hx => (hR.og.block x hx).1
  have hbb : ∀ x, bv.ownBlock = some x → mid ≤ x := fun x hx => (hR.ob.block x hx).1
  have hb2 := hR.hb
  have hlo := hR.lo
  have hrd := hR.rd
  unfold stepR at h
  by_cases h46 : r = 46
  · subst h46
    rw [if_pos rfl] at h
    split at h
    · cases h
    · rename_i hno
      simp only [not_or] at hno
      simp only [Option.some.injEq] at h
      subst h
      refine take_next hrd ((next_yes hrd (by omega) hp hno.1 (by simpa using hno.2)).mono ?_)
      rintro e w' ⟨rfl, rfl⟩
      have hc := Chg.set2 (Below.refl w.heap.size w) hlt 0 1 (.int .i64 (t.p + 1 : Nat)) (.int .i64 (0 : Nat))
      exact ⟨rfl, gv, bv, mid, hR.same hc ((hrd.set0 _).set1 _) rfl rfl (fun h => by simp at h; omega), hc.frm hbase (fun x e => by cases e)⟩
  · rw [if_neg h46] at h
    by_cases h0 : t.p = 0
    · rw [if_pos h0] at h
      split at h
      · cases h
      · rename_i hno
        simp only [not_or, Decidable.not_not] at hno
        split at h
        · rename_i hle
          simp only [Option.some.injEq] at h
          subst h
          have hrd0 := hrd
          rw [h0] at hrd0
          refine take_dec hrd0 h46 ((dec_yes hrd0 r hr (by omega) ho.f hno.1 hno.2).mono ?_)
          rintro e w' ⟨rfl, w1, hb1, rfl⟩
          have hc := Chg.set2 hb1 hlt 1 2 (.int .i64 (t.s + 1 : Nat)) (.int .u64 (t.f * 10 + (r - 48) : Nat))
          exact ⟨by simp [hle], gv, bv, mid, hR.same hc (((hrd.keep (hb1.block b hlt)).set1 _).set2 _) rfl rfl (fun h => h), hc.frm hbase (fun x e => by cases e)⟩
        · cases h
    · rw [if_neg h0] at h
      by_cases hx : numD r < 16
      · rw [if_neg (by simpa using hx)] at h
        by_cases hh : halfB t.p (t.s + 1) = true
        · rw [if_pos hh] at h
          simp only [Option.some.injEq] at h
          subst h
          have key : ∀ i, Calls Tryd.prog 77 #[.pointer (some ⟨b, 0, none⟩), .int .i32 r, .pointer (some ⟨b, i, none⟩)] w fun e w' => e = .returned (.bool true) ∧ Took b base { t with s := t.s + 1, h := numD r } w w' := fun i =>
            (hex_first hrd r i hr hs hx hh).mono fun e w' ⟨he, w1, hb1, hw⟩ => by
              subst he hw
              have hc := Chg.set2 hb1 hlt 1 3 (.int .i64 (t.s + 1 : Nat)) (.int .u8 (numD r))
              exact ⟨rfl, gv, bv, mid, hR.same hc (((hrd.keep (hb1.block b hlt)).set1 _).set3 _) rfl rfl (fun h => h), hc.frm hbase (fun x e => by cases e)⟩
          by_cases h1 : t.p = 1
          · rw [h1] at hrd
            exact take_hex4 hrd h46 (key 4)
          · exact take_hex5 hrd (by omega) h46 (key 5)
        · rw [if_neg hh] at h
          have hh' : halfB t.p (t.s + 1) = false := by simpa using hh
          by_cases h1 : t.p = 1
          · rw [if_pos h1] at h
            split at h
            · rename_i hle
              simp only [Option.some.injEq] at h
              subst h
              obtain ⟨hbn, hbl⟩ := hR.none_ (by omega)
              subst hbn
              have hrd1 := hrd
              rw [h1] at hrd1
              refine take_hex4 hrd1 h46 ((hex_second hrd r 4 base gv t.g hr hs ho.h hx hh' (.inl ⟨rfl, rfl⟩) hR.og (by have := ho.g; omega) hb2 hbase).mono ?_)
              rintro e w' ⟨rfl, v', hov, hrd', _, hc⟩
              refine ⟨by simp [hle], v', .slice none 0 0, w'.heap.size, ?_, hc.frm hbase hgb⟩
              exact { rd := hrd' rfl, og := hov, ob := by rw [show ({ t with s := t.s + 1, g := t.g ++ [UInt8.ofNat (t.h * 16 + numD r)] } : RSt).b = [] from hbl]; exact Own.nil_ _ _ _, hb := hb2, lo := Nat.le_trans hbase hc.size, hi := Nat.le_refl _, apart := fun x hx => (hov.block x hx).2, none_ := fun _ => ⟨rfl, hbl⟩ }
            · cases h
          · rw [if_neg h1] at h
            split at h
            · rename_i hle
              simp only [Option.some.injEq] at h
              subst h
              refine take_hex5 hrd (by omega) h46 ((hex_second hrd r 5 mid bv t.b hr hs ho.h hx hh' (.inr ⟨rfl, rfl⟩) hR.ob (by have := ho.b; omega) (by omega) hR.hi).mono ?_)
              rintro e w' ⟨rfl, v', hov, _, hrd', hc⟩
              refine ⟨by simp [hle], gv, v', mid, ?_, hc.frm hbase (fun x e => by have := hbb x e; omega)⟩
              exact { rd := hrd' rfl, og := own_other hR.og hc hb2 (fun x hx e => by have := hR.apart x hx; have := hbb x e; omega), ob := hov, hb := hb2, lo := hlo, hi := Nat.le_trans hR.hi hc.size, apart := hR.apart, none_ := fun h => by simp at h; omega }
            · cases h
      · rw [if_pos hx] at h
        cases h

theorem take_no {w : World} {b base : Nat} {t : RSt} {gv bv : Value} {mid r : Nat} (hR : RdS w b base t gv bv mid) (ho : OKR t) (hr : r ≤ 2147483647) (hs : t.s < 140737488355328) (hp : t.p ≤ 140737488355328) (h : stepR t r = none) :
    Calls Tryd.prog 64 #[.pointer (some ⟨b, 0, none⟩), .int .i32 r] w fun e w' => e = .returned (.bool false) ∧ Frm b base w w' := by
  have hlt := hR.rd.lt
  have hbase : base ≤ w.heap.size := Nat.le_trans hR.lo hR.hi
  have hgb : ∀ x, gv.ownBlock = some x → base ≤ x := fun x hx => (hR.og.block x hx).1
  have hbb : ∀ x, bv.ownBlock = some x → mid ≤ x := fun x hx => (hR.ob.block x hx).1
  have hb2 := hR.hb
  have hlo := hR.lo
  have hrd := hR.rd
  unfold stepR at h
  by_cases h46 : r = 46
  · subst h46
    rw [if_pos rfl] at h
    split at h
    · rename_i hno
      refine take_next hrd ((next_no hrd (by omega) hno).mono ?_)
      rintro e w' ⟨rfl, rfl⟩
      exact ⟨rfl, .refl _ _ _⟩
    · cases h
  · rw [if_neg h46] at h
    by_cases h0 : t.p = 0
    · rw [if_pos h0] at h
      have hrd0 := hrd
      rw [h0] at hrd0
      split at h
      · rename_i hno
        refine take_dec hrd0 h46 ((dec_no hrd0 r hr (by omega) hno).mono ?_)
        rintro e w' ⟨rfl, hb⟩
        exact ⟨rfl, Frm.belowW hb hbase⟩
      · rename_i hno
        simp only [not_or, Decidable.not_not] at hno
        split at h
        · cases h
        · rename_i hle
          refine take_dec hrd0 h46 ((dec_yes hrd0 r hr (by omega) ho.f hno.1 hno.2).mono ?_)
          rintro e w' ⟨rfl, w1, hb1, rfl⟩
          have hc := Chg.set2 hb1 hlt 1 2 (.int .i64 (t.s + 1 : Nat)) (.int .u64 (t.f * 10 + (r - 48) : Nat))
          exact ⟨by simp [hle], hc.frm hbase (fun x e => by cases e)⟩
    · rw [if_neg h0] at h
      by_cases hx : numD r < 16
      · rw [if_neg (by simpa using hx)] at h
        by_cases hh : halfB t.p (t.s + 1) = true
        · rw [if_pos hh] at h
          cases h
        · rw [if_neg hh] at h
          have hh' : halfB t.p (t.s + 1) = false := by simpa using hh
          by_cases h1 : t.p = 1
          · rw [if_pos h1] at h
            split at h
            · cases h
            · rename_i hle
              have hrd1 := hrd
              rw [h1] at hrd1
              refine take_hex4 hrd1 h46 ((hex_second hrd r 4 base gv t.g hr hs ho.h hx hh' (.inl ⟨rfl, rfl⟩) hR.og (by have := ho.g; omega) hb2 hbase).mono ?_)
              rintro e w' ⟨rfl, v', hov, hrd', _, hc⟩
              exact ⟨by simp [hle], hc.frm hbase hgb⟩
          · rw [if_neg h1] at h
            split at h
            · cases h
            · rename_i hle
              refine take_hex5 hrd (by omega) h46 ((hex_second hrd r 5 mid bv t.b hr hs ho.h hx hh' (.inr ⟨rfl, rfl⟩) hR.ob (by have := ho.b; omega) (by omega) hR.hi).mono ?_)
              rintro e w' ⟨rfl, v', hov, _, hrd', hc⟩
              exact ⟨by simp [hle], hc.frm hbase (fun x e => by have := hbb x e; omega)⟩
      · have key : ∀ i, Calls Tryd.prog 77 #[.pointer (some ⟨b, 0, none⟩), .int .i32 r, .pointer (some ⟨b, i, none⟩)] w fun e w' => e = .returned (.bool false) ∧ Frm b base w w' := fun i =>
          (hex_no hrd r i hr hx).mono fun e w' ⟨he, hb⟩ => ⟨he, Frm.belowW hb hbase⟩
        by_cases h1 : t.p = 1
        · rw [h1] at hrd
          exact take_hex4 hrd h46 (key 4)
        · exact take_hex5 hrd (by omega) h46 (key 5)

end Go.Proofs.YtalcfglcbpkebaaDoor
