/-
  One round of the program's: what calls of it leave; the law's head.
  Conditions: none but sizes.
-/
import Derived.Test.YtknfiiacalfelaaCrT
import Derived.Test.YtknfiiacalfelaaCrG
namespace Go.Proofs.Ytknfiiacalfelaa
open Go.RowKit Go.Shelf
set_option linter.unusedVariables false
set_option linter.unusedSimpArgs false
set_option maxRecDepth 100000

/-- What only the program's rounds may change. -/
def mineP (o : Obj) : Prop := (∃ c ty fr, o = .cells c ty fr ∧ (ty = 55 ∨ ty = 77 ∨ ty = 64)) ∨ ∃ es c, o = .map es c
/-- Whatever is not mine is as it was. -/
def KeptBy (mine : Obj → Prop) (w w' : World) : Prop := w.heap.size ≤ w'.heap.size ∧ ∀ (k : Nat) (o : Obj), w.heap[k]? = some o → ¬ mine o → w'.heap[k]? = some o
theorem KeptBy.trans {mine : Obj → Prop} {w w1 w2 : World} (h : KeptBy mine w w1) (h2 : KeptBy mine w1 w2) : KeptBy mine w w2 := ⟨Nat.le_trans h.1 h2.1, fun k o hk ho => h2.2 k o (h.2 k o hk ho) ho⟩
theorem KeptBy.refl (mine : Obj → Prop) (w : World) : KeptBy mine w w := ⟨Nat.le_refl _, fun _ _ h _ => h⟩
theorem KeptBy.of_below {mine : Obj → Prop} {w w1 : World} (h : Below w.heap.size w w1) : KeptBy mine w w1 := ⟨h.size, fun k o hk _ => (h.block k (Array.getElem?_eq_some_iff.1 hk).1).trans hk⟩
theorem KeptBy.cells {mine : Obj → Prop} {w w1 : World} (h : KeptBy mine w w1) {k : Nat} {c : Array Value} {ty : TypeId} {fr : Nat × Nat} (hk : w.heap[k]? = some (.cells c ty fr)) (hm : ¬ mine (.cells c ty fr)) : w1.heap[k]? = w.heap[k]? := (h.2 k _ hk hm).trans hk.symm
theorem not_mineP {c : Array Value} {ty : TypeId} {fr : Nat × Nat} (h1 : ty ≠ 55) (h2 : ty ≠ 77) (h3 : ty ≠ 64) : ¬ mineP (.cells c ty fr) := by
  rintro (⟨c', ty', fr', e, h⟩ | ⟨es, c', e⟩)
  · injection e with _ e _
    subst e
    rcases h with h | h | h
    · exact h1 h
    · exact h2 h
    · exact h3 h
  · cases e
/-- A row of the call's own of other elements. -/
theorem OwnG.kb {α : Type} {C : Code α} {mine : Obj → Prop} {w w1 : World} {e : TypeId} {base : Nat} {v : Value} {l : List α} (h : OwnG C e w base v l) (hk : KeptBy mine w w1) (hm : ∀ c, ¬ mine (.cells c e (0, 0))) : OwnG C e w1 base v l := h.keep fun g hg => by
  rcases h.2 with ⟨rfl, _⟩ | ⟨g', cap, cur, rfl, _, hb, _⟩
  · cases hg
  · cases hg
    exact hk.cells hb (hm _)
section
variable {w0 w w' : World} {B pb : Nat} {s s' : CP} {F : Nat → Prop} {r : Ending} {f : FuncId} {args : Array Value}
theorem CW.mine (h : CW w B pb s F) {k : Nat} (hk : F k) : ∃ o, w.heap[k]? = some o ∧ mineP o := by
  obtain ⟨_, rb, mb, sv, X, h1, rfl⟩ := h
  rcases hk with rfl | rfl | rfl | ⟨x, hx, rfl⟩
  · exact ⟨_, h1.box, .inl ⟨_, _, _, rfl, .inl rfl⟩⟩
  · obtain ⟨x, y, hr⟩ := h1.ring
    exact ⟨_, hr, .inl ⟨_, _, _, rfl, .inr (.inl rfl)⟩⟩
  · obtain ⟨⟨es, c, hm, _⟩, _⟩ := h1.map
    exact ⟨_, hm, .inr ⟨_, _, rfl⟩⟩
  · obtain ⟨y, z, hs⟩ := h1.seat x hx
    exact ⟨_, hs, .inl ⟨_, _, _, rfl, .inr (.inr rfl)⟩⟩
theorem KeptBy.of_moved (h : CW w B pb s F) (hm : MovedQ F w w') : KeptBy mineP w w' := ⟨hm.size, fun k o hk ho => (hm.block k (Array.getElem?_eq_some_iff.1 hk).1 fun hF => by
  obtain ⟨o2, h2, h3⟩ := h.mine hF
  rw [hk] at h2
  cases h2
  exact ho h3).trans hk⟩
/-- A round of the program. -/
structure UnoC (w0 : World) (pb : Nat) (s : CP) (w : World) : Prop where
  bel : Below w0.heap.size w0 w
  one : ∃ F, CW w w0.heap.size pb s F
theorem UnoC.ok (h : UnoC w0 pb s w) : s.ok := by obtain ⟨F, h1⟩ := h.one; exact h1.1
theorem UnoC.step (h : UnoC w0 pb s w) (hb : Below w.heap.size w w') : UnoC w0 pb s w' := by
  obtain ⟨F, h1⟩ := h.one
  exact ⟨h.bel.trans (hb.mono h.bel.size), F, h1.keep fun k hk => hb.block k (h1.foot k hk).2⟩
theorem UnoC.call (h : UnoC w0 pb s w) (hc : ∀ F, CW w w0.heap.size pb s F → Calls Try.prog f args w fun e w' => e = r ∧ LeftC w w0.heap.size pb F s' w') : Calls Try.prog f args w fun e w' => e = r ∧ UnoC w0 pb s' w' ∧ KeptBy mineP w w' := by
  obtain ⟨F, h1⟩ := h.one
  refine (hc F h1).mono ?_
  rintro e w' ⟨rfl, F', g1, g2, g3⟩
  exact ⟨rfl, ⟨g3.below h.bel (fun k hk => (h1.foot k hk).1) h.bel.size, F', g1⟩, KeptBy.of_moved h1 g3⟩
theorem UnoC.add (h : UnoC w0 pb s w) (t : Tg) (ht : t.length ≤ 140737488355328) : Calls Try.prog 9 #[.pointer (some ⟨pb, 0, none⟩), .string (str8 t)] w fun e w' => e = .returned (.int .i64 (s.add t).1) ∧ UnoC w0 pb (s.add t).2 w' ∧ KeptBy mineP w w' := h.call fun F hF => add_any hF h.bel.size t ht
theorem UnoC.remove (h : UnoC w0 pb s w) (t : Tg) (ht : t.length ≤ 140737488355328) : Calls Try.prog 11 #[.pointer (some ⟨pb, 0, none⟩), .string (str8 t)] w fun e w' => e = .returned (.int .i64 (s.remove t).1) ∧ UnoC w0 pb (s.remove t).2 w' ∧ KeptBy mineP w w' := h.call fun F hF => remove_any hF h.bel.size t ht
theorem UnoC.give (h : UnoC w0 pb s w) (t : Tg) (ht : t.length ≤ 140737488355328) (n : Nat) (hn : n ≤ 4294967295) : Calls Try.prog 17 #[.pointer (some ⟨pb, 0, none⟩), .string (str8 t), .int .u32 n] w fun e w' => e = .returned (.int .i64 (s.give t n).1) ∧ UnoC w0 pb (s.give t n).2 w' ∧ KeptBy mineP w w' := h.call fun F hF => give_any hF t ht n hn
theorem UnoC.stop (h : UnoC w0 pb s w) (t : Tg) (ht : t.length ≤ 140737488355328) : Calls Try.prog 13 #[.pointer (some ⟨pb, 0, none⟩), .string (str8 t)] w fun e w' => e = .returned (.int .i64 (s.stop t).1) ∧ UnoC w0 pb (s.stop t).2 w' ∧ KeptBy mineP w w' := h.call fun F hF => stop_any hF t ht
theorem UnoC.turn (h : UnoC w0 pb s w) (A : Option Addr) (n c d : Nat) (may : List Tg) (hn : n = may.length) (hs : ShowsG strC w d (.slice A n c) may) (hl : ∀ t ∈ may, t.length ≤ 140737488355328) (hm : may.length ≤ 1000000) :
    Calls Try.prog 15 #[.pointer (some ⟨pb, 0, none⟩), .slice A n c] w fun e w' => e = .returned (.tuple #[.string (str8 (s.turn may).1.1), .bool (s.turn may).1.2]) ∧ UnoC w0 pb (s.turn may).2 w' ∧ KeptBy mineP w w' := by
  subst hn
  exact h.call fun F hF => turn_any hF h.bel.size A c d may hs hl hm
theorem UnoC.credit (h : UnoC w0 pb s w) (t : Tg) (ht : t.length ≤ 140737488355328) : Calls Try.prog 20 #[.pointer (some ⟨pb, 0, none⟩), .string (str8 t)] w fun e w' => e = .returned (.tuple #[.int .u32 (s.credit t).1, .int .i64 (s.credit t).2]) ∧ UnoC w0 pb s w' ∧ KeptBy mineP w w' := by
  obtain ⟨F, h1⟩ := h.one
  exact (credit_any h1 t ht).mono fun e w' hx => by
    obtain ⟨rfl, rfl⟩ := hx
    exact ⟨rfl, h, KeptBy.refl _ _⟩
theorem UnoC.tags (h : UnoC w0 pb s w) (hn : s.l.length ≤ 1000000) : Calls Try.prog 19 #[.pointer (some ⟨pb, 0, none⟩)] w fun e w' => ∃ v, e = .returned v ∧ OwnG strC 9 w' w.heap.size v (s.l.map (·.1)) ∧ UnoC w0 pb s w' ∧ Below w.heap.size w w' := by
  obtain ⟨F, h1⟩ := h.one
  exact (tags_any h1 hn).mono fun e w' ⟨v, h2, h3, h4⟩ => ⟨v, h2, h3, h.step h4, h4⟩
theorem UnoC.new (w : World) : Calls Try.prog 7 #[] w fun e w' => ∃ pb, e = .returned (.pointer (some ⟨pb, 0, none⟩)) ∧ UnoC w pb ⟨[], []⟩ w' ∧ Below w.heap.size w w' :=
  (newC_any w).mono fun e w' ⟨pb, F, h1, h2, h3⟩ => ⟨pb, h1, ⟨h3, F, h2⟩, h3⟩
end

def tA : Tg := [97]
def tB : Tg := [98]
def tC : Tg := [99]
def hst : Nat → CP
  | 0 => ⟨[], []⟩
  | 1 => ⟨[(tA, 0)], []⟩
  | 2 => ⟨[(tA, 0), (tB, 0)], []⟩
  | 3 => ⟨[(tA, 0), (tB, 0), (tC, 0)], []⟩
  | 4 => ⟨[(tA, 2), (tB, 0), (tC, 0)], []⟩
  | 5 => ⟨[(tA, 2), (tB, 0), (tC, 2)], []⟩
  | 6 => ⟨[(tA, 1), (tB, 0), (tC, 2)], tA⟩
  | 7 => ⟨[(tA, 1), (tB, 0), (tC, 1)], tC⟩
  | _ => ⟨[(tA, 0), (tB, 0), (tC, 1)], tA⟩
theorem hs0 : (hst 0).add tA = (0, hst 1) := by rfl
theorem hs1 : (hst 1).add tB = (0, hst 2) := by rfl
theorem hs2 : (hst 2).add tC = (0, hst 3) := by rfl
theorem hs3 : (hst 3).give tA 2 = (0, hst 4) := by rfl
theorem hs4 : (hst 4).give tC 2 = (0, hst 5) := by rfl
theorem hs5 : (hst 5).turn [tA, tB, tC] = ((tA, true), hst 6) := by rfl
theorem hs6 : (hst 6).turn [tA, tB, tC] = ((tC, true), hst 7) := by rfl
theorem hs7 : (hst 7).turn [tA, tB, tC] = ((tA, true), hst 8) := by rfl
theorem hs8 : (hst 8).credit tA = (0, 0) := by rfl
theorem hs9 : (hst 8).add tA = (8, hst 8) := by rfl

set_option maxHeartbeats 4000000 in
theorem chead_any (w : World) : Calls Try.prog 8 #[] w fun e w' => e = .returned (.bool true) ∧ Below w.heap.size w w' := by
  have H0 := Lib.hid (fun w' => UnoC.new w')
  have HADD : Hid (∀ pb w' j t, j < 3 → [tA, tB, tC][j]? = some t → UnoC w pb (hst j) w' → Calls Try.prog 9 #[.pointer (some ⟨pb, 0, none⟩), .string (str8 t)] w' fun e w'' => e = .returned (.int .i64 0) ∧ UnoC w pb (hst (j + 1)) w'' ∧ KeptBy mineP w' w'') := Lib.hid fun pb w' j t hj ht h => by
    have h3 : j = 0 ∨ j = 1 ∨ j = 2 := by omega
    rcases h3 with rfl | rfl | rfl <;> (simp at ht; subst ht)
    · have := h.add tA (by decide); rw [hs0] at this; exact this
    · have := h.add tB (by decide); rw [hs1] at this; exact this
    · have := h.add tC (by decide); rw [hs2] at this; exact this
  have H3 : Hid (∀ pb w', UnoC w pb (hst 3) w' → Calls Try.prog 17 #[.pointer (some ⟨pb, 0, none⟩), .string ⟨#[97]⟩, .int .u32 2] w' fun e w'' => e = .returned (.int .i64 0) ∧ UnoC w pb (hst 4) w'' ∧ KeptBy mineP w' w'') := Lib.hid fun pb w' h => by
    have := h.give tA (by decide) 2 (by omega); rw [hs3] at this; exact this
  have H4 : Hid (∀ pb w', UnoC w pb (hst 4) w' → Calls Try.prog 17 #[.pointer (some ⟨pb, 0, none⟩), .string ⟨#[99]⟩, .int .u32 2] w' fun e w'' => e = .returned (.int .i64 0) ∧ UnoC w pb (hst 5) w'' ∧ KeptBy mineP w' w'') := Lib.hid fun pb w' h => by
    have := h.give tC (by decide) 2 (by omega); rw [hs4] at this; exact this
  have HT : Hid (∀ pb w' d, ShowsG strC w' d (.slice (some ⟨d, 0, none⟩) 3 3) [tA, tB, tC] → (UnoC w pb (hst 5) w' → Calls Try.prog 15 #[.pointer (some ⟨pb, 0, none⟩), .slice (some ⟨d, 0, none⟩) 3 3] w' fun e w'' => e = .returned (.tuple #[.string ⟨#[97]⟩, .bool true]) ∧ UnoC w pb (hst 6) w'' ∧ KeptBy mineP w' w'') ∧
      (UnoC w pb (hst 6) w' → Calls Try.prog 15 #[.pointer (some ⟨pb, 0, none⟩), .slice (some ⟨d, 0, none⟩) 3 3] w' fun e w'' => e = .returned (.tuple #[.string ⟨#[99]⟩, .bool true]) ∧ UnoC w pb (hst 7) w'' ∧ KeptBy mineP w' w'') ∧
      (UnoC w pb (hst 7) w' → Calls Try.prog 15 #[.pointer (some ⟨pb, 0, none⟩), .slice (some ⟨d, 0, none⟩) 3 3] w' fun e w'' => e = .returned (.tuple #[.string ⟨#[97]⟩, .bool true]) ∧ UnoC w pb (hst 8) w'' ∧ KeptBy mineP w' w'')) := Lib.hid fun pb w' d hd => by
    have hl : ∀ t ∈ [tA, tB, tC], t.length ≤ 140737488355328 := by decide
    refine ⟨fun h => ?_, fun h => ?_, fun h => ?_⟩
    · have := h.turn (some ⟨d, 0, none⟩) 3 3 d [tA, tB, tC] rfl hd hl (by decide); rw [hs5] at this; exact this
    · have := h.turn (some ⟨d, 0, none⟩) 3 3 d [tA, tB, tC] rfl hd hl (by decide); rw [hs6] at this; exact this
    · have := h.turn (some ⟨d, 0, none⟩) 3 3 d [tA, tB, tC] rfl hd hl (by decide); rw [hs7] at this; exact this
  have H8 : Hid (∀ pb w', UnoC w pb (hst 8) w' → Calls Try.prog 20 #[.pointer (some ⟨pb, 0, none⟩), .string ⟨#[97]⟩] w' fun e w'' => e = .returned (.tuple #[.int .u32 0, .int .i64 0]) ∧ UnoC w pb (hst 8) w'' ∧ KeptBy mineP w' w'') := Lib.hid fun pb w' h => by
    have := h.credit tA (by decide); rw [hs8] at this; exact this
  have H9 : Hid (∀ pb w', UnoC w pb (hst 8) w' → Calls Try.prog 9 #[.pointer (some ⟨pb, 0, none⟩), .string ⟨#[97]⟩] w' fun e w'' => e = .returned (.int .i64 8) ∧ UnoC w pb (hst 8) w'' ∧ KeptBy mineP w' w'') := Lib.hid fun pb w' h => by
    have := h.add tA (by decide); rw [hs9] at this; exact this
  go_enter Try.func8, Try.ntmps8
  go_upto_region 3 with (go_at_call 7; refine (H0.out _).mono ?_; rintro e w1 ⟨pb, rfl, h1, hb1⟩)
  obtain ⟨w2, hw2⟩ : ∃ w2, w2 = w1.alloc (.cells #[.string ⟨#[97]⟩, .string ⟨#[98]⟩, .string ⟨#[99]⟩] 9) := ⟨_, rfl⟩
  obtain ⟨d, hd⟩ : ∃ d, d = w1.heap.size := ⟨_, rfl⟩
  have hb2 : Below w1.heap.size w1 w2 := by rw [hw2]; exact (Below.refl _ _).alloc (Nat.le_refl _) _
  have hrow : w2.heap[d]? = some (.cells #[.string ⟨#[97]⟩, .string ⟨#[98]⟩, .string ⟨#[99]⟩] 9 (0, 0)) := by rw [hw2, hd]; exact heap_alloc_new _ _
  have HU2 := Lib.hid (show UnoC w pb (hst 0) w2 from UnoC.step h1 hb2)
  have hms : ∀ c, ¬ mineP (.cells c 9 (0, 0)) := fun c => not_mineP (by decide) (by decide) (by decide)
  have HROW : Hid (∀ w', KeptBy mineP w2 w' → w'.heap[d]? = some (.cells #[.string ⟨#[97]⟩, .string ⟨#[98]⟩, .string ⟨#[99]⟩] 9 (0, 0))) := Lib.hid fun w' hk => (hk.cells hrow (hms _)).trans hrow
  have HSH : Hid (∀ w', KeptBy mineP w2 w' → ShowsG strC w' d (.slice (some ⟨d, 0, none⟩) 3 3) [tA, tB, tC]) := Lib.hid fun w' hk => by
    have h := HROW.out w' hk
    refine ⟨some ⟨d, 0, none⟩, 3, rfl, by decide, by decide, fun _ => ⟨0, rfl, (Array.getElem?_eq_some_iff.1 h).1, fun j hj k hkk => ?_⟩⟩
    have hk0 : k = 0 := by simp [strC] at hkk; exact hkk
    subst hk0
    rw [cell_of_row _ _ _ _ _ (0, 0) h]
    have h3 : j = 0 ∨ j = 1 ∨ j = 2 := by simp at hj; omega
    rcases h3 with rfl | rfl | rfl <;> rfl
  have HC : Hid (∀ w', KeptBy mineP w2 w' → w'.cell? ⟨d, 0, none⟩ = some (.string ⟨#[97]⟩) ∧ w'.cell? ⟨d, 1, none⟩ = some (.string ⟨#[98]⟩) ∧ w'.cell? ⟨d, 2, none⟩ = some (.string ⟨#[99]⟩)) := Lib.hid fun w' hk => by
    have h := HROW.out w' hk
    exact ⟨by rw [cell_of_row _ _ _ _ _ (0, 0) h]; rfl, by rw [cell_of_row _ _ _ _ _ (0, 0) h]; rfl, by rw [cell_of_row _ _ _ _ _ (0, 0) h]; rfl⟩
  rw [← hw2, ← hd]
  clear hw2 hd hb2 hrow h1 hb1
  go_wp2_with fail
  go_loopw [3] (fun i wr => ∃ j : Nat, j ≤ 3 ∧ i = .int .i64 j ∧ Hid (UnoC w pb (hst j) wr) ∧ Hid (KeptBy mineP w2 wr)) (fun i _ => 3 - (intOf i).toNat)
  case atStart => exact ⟨0, by omega, rfl, HU2, Lib.hid (KeptBy.refl _ _)⟩
  case round =>
    rename World => wr
    obtain ⟨j, hj, rfl, hu, hk⟩ := hrel
    have hj3 : j = 0 ∨ j = 1 ∨ j = 2 ∨ j = 3 := by omega
    obtain ⟨a1, a2, a3⟩ := HC.out wr hk.out
    have HNX := Lib.hid (fun w9 (h : KeptBy mineP wr w9) => Lib.hid (hk.out.trans h))
    rcases hj3 with rfl | rfl | rfl | rfl
    · have HA := Lib.hid (HADD.out pb wr 0 tA (by omega) rfl hu.out)
      unfold tA str8 at HA
      go_wp2_with (go_at_call 9; refine HA.out.mono ?_; rintro e w9 ⟨rfl, hu9, hk9⟩)
      go_roundw
      case rel => exact ⟨1, by omega, by go_num, Lib.hid hu9, HNX.out w9 hk9⟩
      case measure => simp [intOf]
    · have HA := Lib.hid (HADD.out pb wr 1 tB (by omega) rfl hu.out)
      unfold tB str8 at HA
      go_wp2_with (go_at_call 9; refine HA.out.mono ?_; rintro e w9 ⟨rfl, hu9, hk9⟩)
      go_roundw
      case rel => exact ⟨2, by omega, by go_num, Lib.hid hu9, HNX.out w9 hk9⟩
      case measure => simp [intOf]
    · have HA := Lib.hid (HADD.out pb wr 2 tC (by omega) rfl hu.out)
      unfold tC str8 at HA
      go_wp2_with (go_at_call 9; refine HA.out.mono ?_; rintro e w9 ⟨rfl, hu9, hk9⟩)
      go_roundw
      case rel => exact ⟨3, by omega, by go_num, Lib.hid hu9, HNX.out w9 hk9⟩
      case measure => simp [intOf]
    · clear a1 a2 a3
      go_wp2_with fail
      refine (H3.out _ _ hu.out).mono ?_
      rintro e w3 ⟨rfl, hu3, hk3⟩
      go_wp2_with fail
      refine (H4.out _ _ hu3).mono ?_
      rintro e w4 ⟨rfl, hu4, hk4⟩
      have g4 := (HNX.out _ hk3).out.trans hk4
      go_wp2_with fail
      refine ((HT.out pb w4 d (HSH.out _ g4)).1 hu4).mono ?_
      rintro e w5 ⟨rfl, hu5, hk5⟩
      have g5 := g4.trans hk5
      go_wp2_with fail
      refine ((HT.out pb w5 d (HSH.out _ g5)).2.1 hu5).mono ?_
      rintro e w6 ⟨rfl, hu6, hk6⟩
      have g6 := g5.trans hk6
      go_wp2_with fail
      refine ((HT.out pb w6 d (HSH.out _ g6)).2.2 hu6).mono ?_
      rintro e w7 ⟨rfl, hu7, hk7⟩
      go_wp2_with fail
      refine (H8.out _ _ hu7).mono ?_
      rintro e w8 ⟨rfl, hu8, hk8⟩
      go_wp2_with fail
      refine (H9.out _ _ hu8).mono ?_
      rintro e w9 ⟨rfl, hu9, hk9⟩
      go_wp2_with fail
      go_ret
      exact ⟨rfl, hu9.bel⟩

end Go.Proofs.Ytknfiiacalfelaa
