/-
  The contracts of frame.wholeFrame, decoded.
  Conditions: at least twelve bytes, where a frame is decoded.
-/
import Derived.Test.YtocankfabgjjmaaFrD
import Derived.Test.YtocankfabgjjmaaOctS
import Derived.Deep.DeepCutAuto
namespace Go.Proofs.Ytocankfabgjjmaa
open Go.RowKit
set_option linter.unusedVariables false
set_option linter.unusedSimpArgs false

/-! ### what stands at a place -/
theorem num_u16 : num 2 = true := by decide
theorem drop_two (l : List UInt8) (i : Nat) (h : i + 1 < l.length) : l.drop i = l[i] :: l[i + 1] :: l.drop (i + 2) := by
  rw [List.drop_eq_getElem_cons (by omega), List.drop_eq_getElem_cons h]
theorem num1_at (l : List UInt8) (i : Nat) (h : i < l.length) : numS 1 (some (l.drop i)) = (byteAt l i, some (l.drop (i + 1))) := by
  have e : takeS 1 (some (l.drop i)) = ([l[i]], some (l.drop (i + 1))) := by
    rw [show (1 : Int) = ((1 : Nat) : Int) from rfl, takeS_ok 1 _ (by rw [List.length_drop]; omega)]
    refine Prod.ext ?_ (by simp)
    show (l.drop i).take 1 = [l[i]]
    rw [List.drop_eq_getElem_cons h]
    rfl
  unfold numS
  rw [if_pos (by decide), e]
  simp only [numOf, List.foldl_cons, List.foldl_nil]
  rw [← byteAt_get h]
  simp
theorem num2_at (l : List UInt8) (i : Nat) (h : i + 1 < l.length) : numS 2 (some (l.drop i)) = (256 * byteAt l i + byteAt l (i + 1), some (l.drop (i + 2))) := by
  have e : takeS 2 (some (l.drop i)) = ([l[i], l[i + 1]], some (l.drop (i + 2))) := by
    rw [show (2 : Int) = ((2 : Nat) : Int) from rfl, takeS_ok 2 _ (by rw [List.length_drop]; omega)]
    refine Prod.ext ?_ (by simp)
    show (l.drop i).take 2 = [l[i], l[i + 1]]
    rw [drop_two l i h]
    rfl
  unfold numS
  rw [if_pos (by decide), e]
  simp only [numOf, List.foldl_cons, List.foldl_nil]
  rw [← byteAt_get h, ← byteAt_get (show i < l.length by omega)]
  simp
  omega
theorem take_at (l : List UInt8) (i n : Nat) (h : i + n ≤ l.length) : (takeS (n : Int) (some (l.drop i))).2 = some (l.drop (i + n)) := by
  rw [takeS_ok n _ (by rw [List.length_drop]; omega)]
  simp
theorem size_num (l : List UInt8) (h : 4 ≤ l.length) : numS 2 (some ((l.drop 2).take 2)) = (sizeAt l, some []) := by
  have e : (l.drop 2).take 2 = [l[2], l[3]] := by rw [drop_two l 2 (by omega)]; rfl
  have h2 := num2_at [l[2], l[3]] 0 (by simp)
  rw [e]
  simp only [List.drop_zero] at h2
  rw [h2]
  simp only [sizeAt, byteAt]
  simp [List.getD, show 2 < l.length by omega, show 3 < l.length by omega]

/-! ### decoded -/
/-- The frame whose bytes these are. -/
def decD (l : List UInt8) : Fr := { a := byteAt l 0 / 8 % 2 == 1, b := byteAt l 0 / 4 % 2 == 1, c := byteAt l 0 / 2 % 2 == 1, d := byteAt l 0 % 2 == 1, t := byteAt l 1, k := byteAt l 5, ch := 256 * byteAt l 6 + byteAt l 7, p := str8 (l.drop 12) }

theorem flag_bits : ∀ n : Nat, n < 256 → ((n &&& 8 != 0) = (n / 8 % 2 == 1)) ∧ ((n &&& 4 != 0) = (n / 4 % 2 == 1)) ∧ ((n &&& 2 != 0) = (n / 2 % 2 == 1)) ∧ ((n &&& 1 != 0) = (n % 2 == 1)) := by decide +kernel
theorem flag_bit (x b : Nat) (hx : x < 256) (hb : b < 256) : (bits .and .u8 (x : Int) (b : Int) != 0) = (x &&& b != 0) := by
  rw [u8_and_nat x b hx hb, Bool.eq_iff_iff]
  simp

theorem BoxF.fr {w : World} {b : Nat} {f : Fr} (h : BoxF w b f) (i : Nat) : w.frozen? ⟨b, i, none⟩ = false := frozen_of_row w b i _ 30 h
theorem BoxF.set4 {w : World} {b : Nat} {f : Fr} (h : BoxF w b f) (n : Nat) : BoxF (w.setCell ⟨b, 4, none⟩ (.int .u8 n)) b { f with t := n } := heap_setCell_same w b 4 _ 30 (.int .u8 n) h
theorem BoxF.set5 {w : World} {b : Nat} {f : Fr} (h : BoxF w b f) (n : Nat) : BoxF (w.setCell ⟨b, 5, none⟩ (.int .u8 n)) b { f with k := n } := heap_setCell_same w b 5 _ 30 (.int .u8 n) h
theorem BoxF.set6 {w : World} {b : Nat} {f : Fr} (h : BoxF w b f) (n : Nat) : BoxF (w.setCell ⟨b, 6, none⟩ (.int .u16 n)) b { f with ch := n } := heap_setCell_same w b 6 _ 30 (.int .u16 n) h
theorem BoxF.set7 {w : World} {b : Nat} {f : Fr} (h : BoxF w b f) (p : ByteArray) : BoxF (w.setCell ⟨b, 7, none⟩ (.string p)) b { f with p := p } := heap_setCell_same w b 7 _ 30 (.string p) h
theorem BoxF.set0 {w : World} {b : Nat} {f : Fr} (h : BoxF w b f) (x : Bool) : BoxF (w.setCell ⟨b, 0, none⟩ (.bool x)) b { f with a := x } := heap_setCell_same w b 0 _ 30 (.bool x) h
theorem BoxF.set1 {w : World} {b : Nat} {f : Fr} (h : BoxF w b f) (x : Bool) : BoxF (w.setCell ⟨b, 1, none⟩ (.bool x)) b { f with b := x } := heap_setCell_same w b 1 _ 30 (.bool x) h
theorem BoxF.set2 {w : World} {b : Nat} {f : Fr} (h : BoxF w b f) (x : Bool) : BoxF (w.setCell ⟨b, 2, none⟩ (.bool x)) b { f with c := x } := heap_setCell_same w b 2 _ 30 (.bool x) h
theorem BoxF.set3 {w : World} {b : Nat} {f : Fr} (h : BoxF w b f) (x : Bool) : BoxF (w.setCell ⟨b, 3, none⟩ (.bool x)) b { f with d := x } := heap_setCell_same w b 3 _ 30 (.bool x) h
/-- The whole frame, cell by cell. -/
theorem BoxF.setAll {w : World} {b : Nat} {f : Fr} (h : BoxF w b f) (g : Fr) :
    BoxF ((((((((w.setCell ⟨b, 0, none⟩ (.bool g.a)).setCell ⟨b, 1, none⟩ (.bool g.b)).setCell ⟨b, 2, none⟩ (.bool g.c)).setCell ⟨b, 3, none⟩ (.bool g.d)).setCell ⟨b, 4, none⟩ (.int .u8 g.t)).setCell ⟨b, 5, none⟩ (.int .u8 g.k)).setCell ⟨b, 6, none⟩ (.int .u16 g.ch)).setCell ⟨b, 7, none⟩ (.string g.p)) b g :=
  (((((((h.set0 g.a).set1 g.b).set2 g.c).set3 g.d).set4 g.t).set5 g.k).set6 g.ch).set7 g.p
theorem below_setAll {w0 w : World} {b : Nat} (h : Below w0.heap.size w0 w) (hb : w0.heap.size ≤ b) (v0 v1 v2 v3 v4 v5 v6 v7 : Value) :
    Below w0.heap.size w0 ((((((((w.setCell ⟨b, 0, none⟩ v0).setCell ⟨b, 1, none⟩ v1).setCell ⟨b, 2, none⟩ v2).setCell ⟨b, 3, none⟩ v3).setCell ⟨b, 4, none⟩ v4).setCell ⟨b, 5, none⟩ v5).setCell ⟨b, 6, none⟩ v6).setCell ⟨b, 7, none⟩ v7) :=
  below_set (below_set (below_set (below_set (below_set (below_set (below_set (below_set h hb _) hb _) hb _) hb _) hb _) hb _) hb _) hb _

def zF : Fr := ⟨false, false, false, false, 0, 0, 0, ⟨#[]⟩⟩
section
variable {w0 w w' : World} {bf g d : Nat} {f : Fr} {s s' : Option (List UInt8)}
end

end Go.Proofs.Ytocankfabgjjmaa
