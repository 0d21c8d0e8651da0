/-
  Without the program: names, and what looks them up.
  Conditions: none.
-/
import Derived.Lib.IndexLaws
import Derived.Lib.Strings
import Derived.Lib.SlicesS
import Derived.MapKept
import Derived.Test.YthpiicdkihglpaaMePZ
namespace Go.Proofs.Ythpiicdkihglpaa
open Go.RowKit
set_option linter.unusedVariables false
set_option linter.unusedSimpArgs false

theorem tab_nameB : (tabD.all fun r => decide (tabD.find? (fun x => x.name == r.name) = some r)) = true := by decide +kernel
theorem tab_rowB : ((List.range 9).all fun cl => (shapesD cl).all fun sh => decide (rowOf cl sh.co sh ∈ tabD)) = true := by decide +kernel
theorem tab_backB : (tabD.all fun r => decide (r.cl < 9) && (shapesD r.cl).any fun sh => decide (r = rowOf r.cl sh.co sh)) = true := by decide +kernel
theorem word_dotB : ((List.range 9).all fun cl => (sb (wordD cl)).all fun b => b != 46) = true := by decide +kernel
theorem word_neB : ((List.range 9).all fun cl => (shapesD cl).all fun sh => sh.word.size != 0) = true := by decide +kernel
theorem tab_name {r : RowT} (h : r ∈ tabD) : tabD.find? (fun x => x.name == r.name) = some r := of_decide_eq_true (List.all_eq_true.1 tab_nameB r h)
theorem tab_row {cl : Nat} (h : cl < 9) {sh : Shape} (hs : sh ∈ shapesD cl) : rowOf cl sh.co sh ∈ tabD := of_decide_eq_true (List.all_eq_true.1 (List.all_eq_true.1 tab_rowB cl (List.mem_range.2 h)) sh hs)
theorem tab_back {r : RowT} (h : r ∈ tabD) : r.cl < 9 ∧ ∃ sh ∈ shapesD r.cl, r = rowOf r.cl sh.co sh := by
  have h1 := List.all_eq_true.1 tab_backB r h
  simp only [Bool.and_eq_true, decide_eq_true_eq, List.any_eq_true] at h1
  exact h1
theorem name_hit {cl : Nat} (h : cl < 9) {sh : Shape} (hs : sh ∈ shapesD cl) {s : ByteArray} (e : nameD cl sh = s) : tabD.find? (fun x => x.name == s) = some (rowOf cl sh.co sh) := by
  have := tab_name (tab_row h hs)
  rw [← e]
  exact this
theorem name_miss {s : ByteArray} (h : ∀ cl, cl < 9 → ∀ sh ∈ shapesD cl, nameD cl sh ≠ s) : tabD.find? (fun x => x.name == s) = none := by
  rw [List.find?_eq_none]
  intro r hr hx
  obtain ⟨h1, sh, h2, h3⟩ := tab_back hr
  have hx : r.name = s := (MapKept.bytes_beq _ _).1 hx
  refine h r.cl h1 sh h2 ?_
  rw [← hx, h3]
  rfl
/-- Where the first dot stands. -/
def dotD (s : ByteArray) : Int := Lib.indexByte s.data.toList 46
theorem sb_name (cl : Nat) (sh : Shape) : sb (nameD cl sh) = sb (wordD cl) ++ 46 :: sb sh.word := by
  unfold nameD
  simp [sb]
theorem dot_no {cl : Nat} (h : cl < 9) : ∀ b ∈ sb (wordD cl), b ≠ 46 := by
  intro b hb
  have := List.all_eq_true.1 (List.all_eq_true.1 word_dotB cl (List.mem_range.2 h)) b hb
  simpa using this
theorem sb_eq {a b : ByteArray} (h : sb a = sb b) : a = b := by rw [← str8_sb a, ← str8_sb b, h]
theorem sb_ext (s : ByteArray) (a b : Nat) : sb (s.extract a b) = ((sb s).take b).drop a := by
  simp [sb, ByteArray.data_extract, Array.toList_extract, List.extract, List.drop_take]
theorem cut_list {l W R : List UInt8} {i : Nat} (h1 : l[i]? = some 46) (h2 : ∀ k, k < i → l[k]? ≠ some 46) (hW : ∀ b ∈ W, b ≠ 46) : W ++ 46 :: R = l ↔ W = l.take i ∧ R = l.drop (i + 1) := by
  constructor
  · rintro rfl
    have hi : i = W.length := by
      rcases Nat.lt_trichotomy i W.length with h | h | h
      · rw [List.getElem?_append_left h, List.getElem?_eq_getElem h] at h1
        exact absurd (Option.some.inj h1) (hW _ (List.getElem_mem h))
      · exact h
      · exact absurd (by simp) (h2 W.length h)
    subst hi
    simp
  · rintro ⟨rfl, rfl⟩
    obtain ⟨hi, h3⟩ := List.getElem?_eq_some_iff.1 h1
    rw [← h3, ← List.drop_eq_getElem_cons hi, List.take_append_drop]
theorem name_cut {cl : Nat} (h : cl < 9) {sh : Shape} {s : ByteArray} {i : Nat} (hd : dotD s = i) : nameD cl sh = s ↔ wordD cl = s.extract 0 i ∧ sh.word = s.extract (i + 1) s.size := by
  obtain ⟨h1, h2⟩ := Lib.indexByte_some hd
  have hc := @cut_list (sb s) (sb (wordD cl)) (sb sh.word) i h1 h2 (dot_no h)
  constructor
  · intro e
    have e2 : sb (wordD cl) ++ 46 :: sb sh.word = sb s := by rw [← sb_name, e]
    obtain ⟨e3, e4⟩ := hc.1 e2
    refine ⟨sb_eq (by rw [e3, sb_ext]; simp), sb_eq (by rw [e4, sb_ext]; rw [List.take_of_length_le (by rw [sb_length]; exact Nat.le_refl _)])⟩
  · rintro ⟨e3, e4⟩
    refine sb_eq ?_
    rw [sb_name]
    refine hc.2 ⟨by rw [e3, sb_ext]; simp, by rw [e4, sb_ext]; rw [List.take_of_length_le (by rw [sb_length]; exact Nat.le_refl _)]⟩
theorem name_none {cl : Nat} (h : cl < 9) {sh : Shape} {s : ByteArray} (hd : dotD s = -1) : nameD cl sh ≠ s := by
  rintro rfl
  have := Lib.indexByte_none hd (sb (wordD cl)).length
  have e := sb_name cl sh
  unfold sb at e
  rw [e] at this
  apply this
  simp [sb]
theorem word_ne {cl : Nat} (h : cl < 9) {sh : Shape} (hs : sh ∈ shapesD cl) : sh.word ≠ ⟨#[]⟩ := by
  have h1 := List.all_eq_true.1 (List.all_eq_true.1 word_neB cl (List.mem_range.2 h)) sh hs
  intro e
  rw [e] at h1
  exact absurd h1 (by decide)

end Go.Proofs.Ythpiicdkihglpaa
