/-
  The bound on a put's properties is nothing where it is as great as the text: pure.
  Conditions: none.
-/
import Derived.Test.YtdklhcmoilcpgaaGreatEnIZ
namespace Go.Proofs.YtdklhcmoilcpgaaGreat
open Go.RowKit
set_option linter.unusedVariables false
set_option linter.unusedSimpArgs false
theorem textT_big {p : Int} {x : Nat × St} (h : (lenS x.2 : Int) ≤ p) : textT p x = takeS (x.1 : Nat) x.2 := by
 obtain ⟨n, s⟩ := x
 unfold textT
 by_cases c : p < 0 ∨ p < (n : Int)
 ·rw [if_pos c]
  cases s with
  | none => rfl
  | some l =>
   simp only [lenS] at h
   exact (takeS_far n l (by omega)).symm
 ·rw [if_neg c]
theorem textS_big {p : Int} {s : St} (h : (lenS s : Int) ≤ p) : textS 4 p s = takeS ((numS 4 s).1 : Nat) (numS 4 s).2 := by
 unfold textS
 rw [if_pos (by decide)]
 exact textT_big (by have := numS_lenS 4 s; omega)
theorem putS_pm {nm bm : Int} {L M : Int} {s : St} (h : (lenS s : Int) ≤ L) (h' : (lenS s : Int) ≤ M) : putS nm L bm s = putS nm M bm s := by
 have hb : lenS (numS 8 (textS 1 nm s).2).2 ≤ lenS s := Nat.le_trans (lenS_num _ _) (lenS_text _ _ _)
 unfold putS
 simp only []
 rw [textS_big (p := L) (by omega), textS_big (p := M) (by omega)]
theorem lenS_putS (nm pm bm : Int) (s : St) : lenS (putS nm pm bm s).2 ≤ lenS s :=
 Nat.le_trans (lenS_text _ _ _) (Nat.le_trans (lenS_text _ _ _) (Nat.le_trans (lenS_num _ _) (lenS_text _ _ _)))
theorem lenS_listS {α : Type} (item : St → α × St) (stop : Bool) (h : ∀ s, lenS (item s).2 ≤ lenS s) : ∀ (n : Nat) (s : St), lenS (listS item stop n s).2 ≤ lenS s
 | 0, s => Nat.le_refl _
 | n + 1, s => by
  have ih := lenS_listS item stop h n s
  unfold listS
  split
  ·exact ih
  ·exact Nat.le_trans (h _) ih
theorem listS_pm {nm bm : Int} {L M : Int} (stop : Bool) {s : St} (h : (lenS s : Int) ≤ L) (h' : (lenS s : Int) ≤ M) : ∀ n : Nat, listS (putS nm L bm) stop n s = listS (putS nm M bm) stop n s
 | 0 => rfl
 | n + 1 => by
  have ih := listS_pm (nm := nm) (bm := bm) stop h h' n
  have hl := lenS_listS (putS nm M bm) stop (lenS_putS nm M bm) n s
  unfold listS
  rw [ih, putS_pm (L := L) (M := M) (by omega) (by omega)]
theorem lenS_nameS (nm : Int) (k : Nat) (s : St) : lenS (nameS nm k s).2 ≤ lenS s := by
 unfold nameS
 split
 ·exact lenS_text _ _ _
 ·exact Nat.le_refl _
theorem lenS_nrS (k : Nat) (s : St) : lenS (nrS k s).2 ≤ lenS s := by
 unfold nrS
 split
 ·exact lenS_num _ _
 ·exact Nat.le_refl _
theorem lenS_xS (k : Nat) (s : St) : lenS (xS true k s).2 ≤ lenS s := by
 unfold xS xidS
 split
 ·exact takeS_lenS _ _
 ·exact Nat.le_refl _
theorem decG_pm (nm bm : Int) {L M : Int} (l : List UInt8) (h : (l.length : Int) ≤ L) (h' : (l.length : Int) ≤ M) : decG nm L bm true l = decG nm M bm true l := by
 have h0 : lenS (numS 1 (some l)).2 ≤ l.length := lenS_num 1 (some l)
 unfold decG
 simp only []
 generalize numS 1 (some l) = a at *
 have h1 := lenS_nameS nm a.1 a.2
 generalize nameS nm a.1 a.2 = b at *
 have h2 := lenS_nrS a.1 b.2
 generalize nrS a.1 b.2 = c at *
 have h3 := lenS_xS a.1 c.2
 generalize xS true a.1 c.2 = d at *
 have hp : psS nm L bm true a.1 d.2 = psS nm M bm true a.1 d.2 := by
  unfold psS
  have h4 := lenS_num 1 d.2
  rw [listS_pm (L := L) (M := M) true (by omega) (by omega)]
 rw [hp]
theorem getE_no_doc {l : List UInt8} (h : ¬ (validE (decG 255 l.length 65535 true l) ∧ encE (decG 255 l.length 65535 true l) = l)) : getE l = none := by
 rw [decG_pm 255 65535 (M := (l.length : Int) + 8192) l (Int.le_refl _) (by omega)] at h
 exact getE_no 255 ((l.length : Int) + 8192) 65535 true (by omega) (by omega) (by omega) h
end Go.Proofs.YtdklhcmoilcpgaaGreat
