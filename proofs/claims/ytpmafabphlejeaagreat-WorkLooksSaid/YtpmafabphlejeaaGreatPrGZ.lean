/-
  Texts, together: PrG, PrH.
  Conditions: none but sizes.
-/
import Derived.Lib.ConvBytes
import Derived.Laws.BitsAllLaws
import Derived.Test.YtpmafabphlejeaaGreatPrAZ
import Derived.Test.YtpmafabphlejeaaGreatValGZ
import Derived.Test.YtpmafabphlejeaaGreatOctAZ
import Derived.Deep.RegionHeld3
import Derived.Test.YtpmafabphlejeaaGreatValIZ
/-
  The contracts of props.next, of a part's has, text and values, of decoded and of Get.
  Conditions: none but sizes.
-/
namespace Go.Proofs.YtpmafabphlejeaaGreat
open Go.RowKit
set_option linter.unusedVariables false
set_option linter.unusedSimpArgs false

/-- '[]byte(s)'. -/
theorem conv_tobytes (w : World) (s : ByteArray) (hs : s.size ≤ 140737488355328) : ∃ v w', (convert 9 133 (.string s)).run Tryz.prog w = .ok v w' ∧ Shows w' w.heap.size v (sb s) ∧ Below w.heap.size w w' := by
  refine ⟨_, _, Lib.run_convert_string_bytes w 9 133 5 s Tryz.underlying9 Tryz.underlying133 Tryz.underlying5, ?_, ?_⟩
  · refine ⟨_, _, by rw [sb_length], by rw [sb_length]; exact grownCap_ge _ _ _ _, grownCap_le_maxLen _ _ _ _ (by simp only [maxLen]; omega), fun hp => ⟨0, rfl, by rw [Lib.bytesWorld_size]; omega, fun j hj => ?_⟩⟩
    rw [Nat.zero_add, Lib.bytesWorld_cell _ _ _ _ (by rw [← sb_length]; exact hj)]
    have : s.data.toList = sb s := rfl
    rw [this]
    simp [u8c, List.getD, hj]
  · exact ⟨rfl, rfl, rfl, by rw [Lib.bytesWorld_size]; omega, fun k hk => Lib.bytesWorld_at_old w _ s k hk⟩

/-- A part that is read: its reader and its flags. -/
def partV (g f : Nat) : Value := .agg #[.pointer (some ⟨g, 0, none⟩), .int .u64 f]
def bitB (f b : Nat) : Bool := decide (f &&& b ≠ 0)
theorem and_neq (f b : Nat) (hf : f < 65536) (hb : b < 65536) : (bits .and .u64 (f : Int) (b : Int) != 0) = bitB f b := by
  rw [u64_and_nat f b (by omega) (by omega)]
  unfold bitB
  rw [Bool.eq_iff_iff]
  simp only [bne_iff_ne, decide_eq_true_eq, ne_eq]
  omega
theorem grown_of_below {w w' : World} {r : Option Nat} (h : Below w.heap.size w w') : w.grownBy w' r := ⟨h.os, h.tape, h.output, h.size, fun k hk _ => h.block k hk⟩
/-- Two cells in a block of the call's own. -/
theorem box2_cells (w : World) (x y : Value) (t : TypeId) : (w.alloc (Obj.cells #[x, y] t)).cell? ⟨w.heap.size, 0, none⟩ = some x ∧ (w.alloc (Obj.cells #[x, y] t)).cell? ⟨w.heap.size, 1, none⟩ = some y := by
  have h := heap_alloc_new w (Obj.cells #[x, y] t)
  exact ⟨by rw [cell_of_row _ _ 0 _ t (0, 0) h]; rfl, by rw [cell_of_row _ _ 1 _ t (0, 0) h]; rfl⟩
theorem cell_below {w w' : World} {k i : Nat} {v : Value} (h : w.cell? ⟨k, i, none⟩ = some v) (hb : Below w.heap.size w w') : w'.cell? ⟨k, i, none⟩ = some v := by
  have hk : k < w.heap.size := by
    by_cases hk : k < w.heap.size
    · exact hk
    · have e : w.heap[k]? = none := Array.getElem?_eq_none (by omega)
      simp [World.cell?, e] at h
  rw [← h]
  exact World.cell?_of_block (w := w) (hb.block k hk)

theorem nextPr_flag (s : St) : (nextPr s).1.1 < 65536 := by
  have := numOf_lt (takeS 2 (numS 2 (some (textS 4 (lenS s) s).1)).2).1
  have hl := takeS_len 2 (numS 2 (some (textS 4 (lenS s) s).1)).2
  have : numOf (takeS 2 (numS 2 (some (textS 4 (lenS s) s).1)).2).1 < 65536 := by
    refine Nat.lt_of_lt_of_le this ?_
    exact Nat.le_trans (Nat.pow_le_pow_right (by decide) (show _ ≤ 2 by omega)) (by decide)
  exact this
theorem cell_grown {w w' : World} {k i g : Nat} {v : Value} (h : w.cell? ⟨k, i, none⟩ = some v) (hg : w.grownBy w' (some g)) (hk : k ≠ g) : w'.cell? ⟨k, i, none⟩ = some v := by
  have hlt : k < w.heap.size := by
    by_cases hk : k < w.heap.size
    · exact hk
    · have e : w.heap[k]? = none := Array.getElem?_eq_none (by omega)
      simp [World.cell?, e] at h
  rw [← h]
  exact World.cell?_of_block (w := w) (hg.block k hlt (fun e => hk (Option.some.inj e)))
theorem grown_far {a w w' : World} {g k : Nat} (h : a.grownBy w (some g)) (hg : w.grownBy w' (some k)) (hk : a.heap.size ≤ k) : a.grownBy w' (some g) :=
  ⟨hg.os.trans h.os, hg.tape.trans h.tape, hg.output.trans h.output, Nat.le_trans h.size hg.size, fun j hj hr => (hg.block j (Nat.lt_of_lt_of_le hj h.size) (fun e => by have := Option.some.inj e; omega)).trans (h.block j hj hr)⟩
theorem grown_below {a w w' : World} {g : Nat} (h : a.grownBy w (some g)) (hb : Below w.heap.size w w') : a.grownBy w' (some g) := grown_trans' h (grown_of_below hb)
theorem grown_setP {a w : World} {g k : Nat} (h : a.grownBy w (some g)) (hk : a.heap.size ≤ k) (i : Nat) (u : Value) : a.grownBy (w.setCell ⟨k, i, none⟩ u) (some g) :=
  ⟨h.os, h.tape, h.output, by simpa using h.size, fun j hj hr => (Below.heap_setCell _ _ _ _ (by show j ≠ k; omega)).trans (h.block j hj hr)⟩

end Go.Proofs.YtpmafabphlejeaaGreat
/-
  The contract of a part's values.
  Conditions: none but sizes.
-/
namespace Go.Proofs.YtpmafabphlejeaaGreat
open Go.RowKit
set_option linter.unusedVariables false
set_option linter.unusedSimpArgs false

/-- What a part's values tells. -/
def AppSaid (f b : Nat) (s : St) (g : Nat) (w : World) (e : Ending) (w' : World) : Prop :=
  ∃ vs, e = .returned (.agg vs.toArray) ∧ ShowsT (lowm w.heap.size w') (appR f b s) vs ∧ w.grownBy w' (some g)
noncomputable def gotT (l : List UInt8) : Tree := match getP l with | none => prZ | some (t, _) => t
theorem shows_farP {w w' : World} {d : Nat} {v : Value} {l : List UInt8} (h : Shows w d v l) (hb : Below w.heap.size w w') : Shows w' d v l := h.keep hb.size (fun hp => hb.block _ (h.lt hp))
/-- A box of five zero cells. -/
def BoxZ (w : World) (k : Nat) : Prop := w.heap[k]? = some (.cells #[.int .u8 0, .int .u64 0, .string ⟨#[]⟩, .slice none 0 0, .slice none 0 0] 31 (0, 0))
theorem BoxZ.new (w : World) : BoxZ (w.alloc (Obj.cells #[.int .u8 0, .int .u64 0, .string ⟨#[]⟩, .slice none 0 0, .slice none 0 0] 31)) w.heap.size := heap_alloc_new w _
theorem BoxZ.below {w w' : World} {k : Nat} (h : BoxZ w k) (hb : Below w.heap.size w w') : BoxZ w' k := (hb.block _ (Array.getElem?_eq_some_iff.1 h).1).trans h
theorem BoxZ.grown {w w' : World} {k g : Nat} (h : BoxZ w k) (hg : w.grownBy w' (some g)) (hk : k ≠ g) : BoxZ w' k := (hg.block _ (Array.getElem?_eq_some_iff.1 h).1 (fun e => hk (Option.some.inj e))).trans h
theorem BoxZ.drew {w : World} {k : Nat} (h : BoxZ w k) : BoxZ w.drew k := h.below (below_drew1 (Below.refl _ _))
theorem BoxZ.facts {w : World} {k : Nat} (h : BoxZ w k) : (w.cell? ⟨k, 0, none⟩ = some (.int .u8 0) ∧ w.cell? ⟨k, 1, none⟩ = some (.int .u64 0) ∧ w.cell? ⟨k, 2, none⟩ = some (.string ⟨#[]⟩) ∧ w.cell? ⟨k, 3, none⟩ = some (.slice none 0 0) ∧ w.cell? ⟨k, 4, none⟩ = some (.slice none 0 0)) ∧
    (w.frozen? ⟨k, 0, none⟩ = false ∧ w.frozen? ⟨k, 1, none⟩ = false ∧ w.frozen? ⟨k, 2, none⟩ = false ∧ w.frozen? ⟨k, 3, none⟩ = false ∧ w.frozen? ⟨k, 4, none⟩ = false) :=
  ⟨⟨cell_of_row w k 0 _ 31 (0, 0) h, cell_of_row w k 1 _ 31 (0, 0) h, cell_of_row w k 2 _ 31 (0, 0) h, cell_of_row w k 3 _ 31 (0, 0) h, cell_of_row w k 4 _ 31 (0, 0) h⟩,
    ⟨frozen_of_row w k 0 _ 31 h, frozen_of_row w k 1 _ 31 h, frozen_of_row w k 2 _ 31 h, frozen_of_row w k 3 _ 31 h, frozen_of_row w k 4 _ 31 h⟩⟩
theorem keep1 {w : World} {a k : Nat} {v : Value} (h : w.cell? ⟨a, 0, none⟩ = some v) (hk : a ≠ k) (i : Nat) (u : Value) : (w.setCell ⟨k, i, none⟩ u).cell? ⟨a, 0, none⟩ = some v := by
  rw [← h]
  exact World.cell?_of_block (w := w) (Below.heap_setCell _ _ _ _ (by show a ≠ k; exact hk))
theorem keep5 {w : World} {a k : Nat} {v : Value} (h : w.cell? ⟨a, 0, none⟩ = some v) (hk : a ≠ k) (u0 u1 u2 u3 u4 : Value) :
    (((((w.setCell ⟨k, 0, none⟩ u0).setCell ⟨k, 1, none⟩ u1).setCell ⟨k, 2, none⟩ u2).setCell ⟨k, 3, none⟩ u3).setCell ⟨k, 4, none⟩ u4).cell? ⟨a, 0, none⟩ = some v :=
  keep1 (keep1 (keep1 (keep1 (keep1 h hk 0 u0) hk 1 u1) hk 2 u2) hk 3 u3) hk 4 u4
/-- Blocks from B on that were there are as they were. -/
structure Aft (B : Nat) (w7 wy : World) : Prop where
  size : w7.heap.size ≤ wy.heap.size
  block : ∀ k, B ≤ k → k < w7.heap.size → wy.heap[k]? = w7.heap[k]?
theorem Aft.refl (B : Nat) (w : World) : Aft B w w := ⟨Nat.le_refl _, fun _ _ _ => rfl⟩
theorem Aft.alloc {B : Nat} {w7 wy : World} (h : Aft B w7 wy) (o : Obj) : Aft B w7 (wy.alloc o) := ⟨by have := h.size; simp; omega, fun k h1 h2 => ((below_boxV wy o).block k (Nat.lt_of_lt_of_le h2 h.size)).trans (h.block k h1 h2)⟩
theorem Aft.set {B : Nat} {w7 wy : World} (h : Aft B w7 wy) {p : Nat} (hp : p < B ∨ w7.heap.size ≤ p) (i : Nat) (u : Value) : Aft B w7 (wy.setCell ⟨p, i, none⟩ u) :=
  ⟨by simpa using h.size, fun k h1 h2 => (Below.heap_setCell _ _ _ _ (by show k ≠ p; omega)).trans (h.block k h1 h2)⟩
theorem Aft.shows {B C : Nat} {w7 wy : World} (h : Aft B w7 wy) {t : Tree} {vs : List Value} (hs : ShowsT (lowm B w7) t vs) (hC : C ≤ B) : ShowsT (lowm C wy) t vs := (hs.sub (low_sub h.size h.block)).sub (low_anti hC)

theorem alloc_drew_lt (w : World) (o : Obj) : w.heap.size < (w.alloc o).drew.heap.size := by
  have : (w.alloc o).drew.heap.size = (w.alloc o).heap.size := rfl
  rw [this, World.size_alloc]
  exact Nat.lt_succ_self _
/-- Where the region ends: the value lies in a box at k. -/
structure EndV (w : World) (g : Nat) (T : Tree) (k : Nat) (vs : List Value) (wy : World) : Prop where
  shows : ∃ B w7, ShowsT (lowm B w7) T vs ∧ w.heap.size + 1 < B ∧ Aft B w7 wy
  gr : w.grownBy wy (some g)
  res : wy.heap[w.heap.size + 1]? = some (.cells #[.int .u8 0, .int .u64 0, .string ⟨#[]⟩, .slice none 0 0, .slice none 0 0] 31 (0, 0))
  box : wy.heap[k]? = some (.cells vs.toArray 31 (0, 0))
  far : w.heap.size + 1 < k
end Go.Proofs.YtpmafabphlejeaaGreat
