/-
  The contract of disk's List.
  Conditions: none but sizes.
-/
import Derived.Test.YtngjmeohleoglaaDiA
import Derived.Test.YtngjmeohleoglaaDiSo
import Derived.Test.YtngjmeohleoglaaGaJ
import Derived.Test.YtngjmeohleoglaaGen
import Derived.Sort.OwnSorted
import Derived.Sort.KeysCollected
import Derived.Shelf.Sort.Plain
import Derived.Shelf.Slices.In.SortNone
import Derived.Maps.RangeWalk
import Derived.OwnWalk
namespace Go.Proofs.Ytngjmeohleoglaa
open Go.RowKit Go.Shelf
set_option linter.unusedVariables false
set_option linter.unusedSimpArgs false
set_option maxRecDepth 100000

/-- Names, one cell each. -/
def nameC : Code DName := { enc := fun q => [.string (str8 q)], sz := 1, len := fun _ => rfl, one := fun x u hu => by simp at hu; subst hu; rfl, pos := by omega }
theorem nameC_all (l : List DName) : nameC.all l = l.map encStr := by
  induction l with
  | nil => rfl
  | cons x r ih => rw [Code.all_cons, ih]; rfl
theorem infoStrD : (Try.prog.info? 9).map (fun i => (i.zero, i.size, i.bytes)) = some (some (.string ⟨#[]⟩), 1, 16) := by kernel_rfl

theorem sort_any (v : Value) (C : List DName) (w : World) (base : Nat) (h : OwnG nameC 9 w base v C) (hn : C.length ≤ 1000000) :
    Calls Try.prog 43 #[v] w fun e w' => e = .returned (.tuple #[]) ∧ OwnG nameC 9 w' base v (C.mergeSort leB) ∧ w.grownBy w' v.ownBlock := by
  rcases h.2 with ⟨rfl, hn0⟩ | ⟨g, cap, cur, rfl, hbase, hb, h1, h2, h3, h4⟩
  · have hC : C = [] := List.eq_nil_of_length_eq_zero hn0
    subst hC
    refine (Any.slices_Sort_string_none lays190 none 0 w).mono fun e w' ⟨e1, e2⟩ => ⟨e1, ?_, ?_⟩
    · rw [e2]; simpa using h
    · rw [e2]; exact ⟨rfl, rfl, rfl, Nat.le_refl _, fun _ _ _ => rfl⟩
  · rw [nameC_all] at h4
    have hH : Sort.Holds encStr w g 0 C.toArray := holds_of_block hb (by simpa [nameC] using h4)
    refine (Any.slices_Sort_string lays190 g 0 cap C w hH (Array.getElem?_eq_some_iff.1 hb).1 (by omega)).mono fun e w' ⟨e1, n, os, e2⟩ => ⟨e1, ?_, ?_⟩
    · rw [e2]
      have := ownsRow_sorted (n := n) (os := os) (ts := C.mergeSort leB) (ss := C) (List.length_mergeSort C) hbase hb h1 h2 (by simpa [nameC] using h3)
      unfold OwnG
      rw [nameC_all, List.length_mergeSort]
      exact this
    · rw [e2]
      exact grownBy_sorted _

/-- Names that rise are as they are sorted. -/
theorem names_sorted {C : List DName} {l : DRow} (hr : Rising l) (hp : C.Perm (l.map (·.1))) : C.mergeSort leB = l.map (·.1) := by
  rw [mergeSort_of_perm hp]
  have tr : ∀ a b c : List UInt8, leB a b = true → leB b c = true → leB a c = true := fun a b c h1 h2 => by simp only [leB, decide_eq_true_eq] at *; exact List.le_trans h1 h2
  have tot : ∀ a b : List UInt8, (leB a b || leB b a) = true := fun a b => by simp only [leB, Bool.or_eq_true, decide_eq_true_eq]; exact List.le_total a b
  refine List.Perm.eq_of_pairwise (le := fun a b => leB a b = true) (fun a b _ _ h1 h2 => ?_) (List.pairwise_mergeSort tr tot _) ?_ (List.mergeSort_perm _ leB)
  · simp only [leB, decide_eq_true_eq] at h1 h2
    exact List.le_antisymm h1 h2
  · exact hr.imp fun h => by simp only [leB, decide_eq_true_eq]; exact List.le_of_lt h

section
variable {w w' : World} {base nb mb r b : Nat} {st : DD} {X : List PF} {d : Value} {L left : List (DName × Value)} {v : Value} {C : List DName}
theorem RangS.neRow (h : RangS strFam w b r L left) (ho : OwnG nameC 9 w base v C) : v.ownBlock ≠ some r ∧ v.ownBlock ≠ some b := by
  obtain ⟨⟨es, clock, since, seen, c0, hb, hs, he, hr, _⟩, _⟩ := h
  rcases ho.2 with ⟨rfl, _⟩ | ⟨g, cap, cur, rfl, _, hg, _⟩
  · simp [Value.ownBlock]
  · constructor
    · intro e
      have : g = r := by simpa [Value.ownBlock] using e
      subst this
      rw [hr] at hg
      cases hg
    · intro e
      have : g = b := by simpa [Value.ownBlock] using e
      subst this
      rw [hb] at hg
      cases hg

theorem list_dead (h : DeadD w d) : Calls Try.prog 17 #[d] w fun e w' => e = .returned (.slice none 0 0) ∧ w' = w := by
  have HC := Lib.hid (made_dead h)
  go_enter Try.func17, Try.ntmps17
  go_wp2_with (go_at_call 39; refine HC.out.mono ?_; rintro e w1 ⟨rfl, rfl⟩)
  go_ret
  exact ⟨rfl, rfl⟩

set_option maxHeartbeats 1000000 in
theorem list_any (h : DiskI w base nb mb X st) (hr : Rising st.fs) (hn : st.fs.length ≤ 1000000) (hk : ∀ x ∈ X, x.q.length ≤ 140737488355328) :
    Calls Try.prog 17 #[.pointer (some ⟨nb, 0, none⟩)] w fun e w' => ∃ v, e = .returned v ∧ OwnG nameC 9 w' w.heap.size v (st.fs.map (·.1)) ∧ Below w.heap.size w w' := by
  have HC := Lib.hid (made_any h.box)
  have c2 := h.box.c2
  have hmap := h.map
  have hcount := h.count
  have hperm : ((Lof X).map (·.1)).Perm (st.fs.map (·.1)) := by
    have := h.perm.map (·.1)
    simpa [Lof, Dof, Function.comp_def] using this
  have hkeys : ∀ y ∈ Lof X, y.1.length ≤ 140737488355328 := fun y hy => by obtain ⟨x, hx, rfl⟩ := List.mem_map.1 hy; exact hk x hx
  have hmlt := h.map.lt
  have HP := Lib.hid hperm
  have HR := Lib.hid hr
  have hLl : (Lof X).length ≤ 1000000 := by simp [Lof]; omega
  have HCL := Lib.hid (fun (q : DName) (hq : q.length ≤ 140737488355328) w2 => clone_any (str8 q) w2 (by rw [str8_size]; omega))
  clear h hr hn hk hcount hperm
  generalize Lof X = L at *
  go_enter Try.func17, Try.ntmps17
  go_wp2_with (first
    | (go_at_call 39; refine HC.out.mono ?_; rintro e w1 ⟨rfl, rfl⟩)
    | (at_range; refine wpList_rangeS (fam := strFam) _ rfl (.tmp 11) rfl Try.underlying48 rfl hmap ?_; intro w0 hrg0 hg0 hs0))
  have hbw0 : Below w1.heap.size w1 w0 := (Below.refl _ _).grown hg0 (Nat.le_refl _) (fun j hj => by cases hj)
  clear hg0
  have HS0 := Lib.hid hs0
  clear hs0 hmap c2
  go_frame
  go_loopw [3] (fun v wr => ∃ (left : List (DName × Value)) (C : List DName), RangS strFam wr mb w1.heap.size L left ∧ OwnG nameC 9 wr w1.heap.size v C ∧ Hid ((C ++ left.map (·.1)).Perm (L.map (·.1))) ∧ Hid (C.length + left.length = L.length) ∧ Below w1.heap.size w1 wr) (fun _ wr => wr.rangeLeft mb w1.heap.size)
  case atStart => exact ⟨L, [], hrg0, OwnG.nil_ _ _ _ _, Lib.hid (List.Perm.refl _), Lib.hid (by simp), hbw0⟩
  case round =>
    rename World => wr
    obtain ⟨left, C, hrg, hown, hpm, hcl, hbw⟩ := hrel
    obtain ⟨Av, cv, rfl, _, _⟩ := hown.form
    go_wp2_with (first
      | (at_next; refine wpList_nextS (fam := strFam) (b := mb) (r := w1.heap.size) (L := L) (left := left) _ rfl (.tmp 12) rfl rfl hrg ?_ ?_))
    · intro hl0
      have HSO := Lib.hid (sort_any _ C wr w1.heap.size hown (by have := hcl.out; omega))
      have HN := Lib.hid (names_sorted (C := C) HR.out (by
        have := hpm.out
        rw [hl0, List.map_nil, List.append_nil] at this
        exact this.trans HP.out))
      have HBW := Lib.hid (And.intro hbw (hown.block))
      clear hown hpm hcl hbw hrg hl0
      go_wp2_with (go_at_call 43; with_reducible refine HSO.out.mono ?_; rintro e w3 ⟨rfl, ho3, hg3⟩)
      go_ret
      refine ⟨_, rfl, by rw [← HN.out]; exact ho3, HBW.out.1.grown hg3 HBW.out.1.size fun j hj => (HBW.out.2 j hj).1⟩
    · intro l1 l2 q vq w2 hl hmem hrg2 hg2 hs2 hen
      have hqk := hkeys _ hmem
      have hnr := hrg.neRow hown
      have hown2 : OwnG nameC 9 w2 w1.heap.size _ C := hown.kept hg2 (.inr hnr.1)
      have hbw2 : Below w1.heap.size w1 w2 := hbw.grown hg2 hbw.size (fun j hj => by cases hj; exact Nat.le_refl _)
      have hen' : (Instr.entry (.pointer (some ⟨w1.heap.size, 0, none⟩))).run Try.prog w2 = .ok (.tuple #[.string (str8 q), vq]) w2 := hen
      have HCQ := Lib.hid (HCL.out q hqk w2)
      have hmW : mb < w2.heap.size := by have := hbw2.size; omega
      have hrW : w1.heap.size < w2.heap.size := hrg2.lt
      have HST := Lib.hid (fun w4 (hb4 : Below w2.heap.size w2 w4) => show RangS strFam w4 mb w1.heap.size L (l1 ++ l2) ∧ OwnG nameC 9 w4 w1.heap.size _ C ∧ Below w1.heap.size w1 w4 from
        ⟨hrg2.keep (hb4.block _ hmW) (hb4.block _ hrW), hown2.below hb4 (Nat.le_refl _), hbw2.trans (hb4.mono hbw2.size)⟩)
      have HM := Lib.hid (And.intro hl (And.intro hrg.left_eq hrg2.left_eq))
      clear hs2 hen hown hbw hrg hg2 hown2 hbw2 hrg2 hnr hl hmW hrW hmem
      have hkv : strFam.kv q = .string (str8 q) := rfl
      rw [hkv]
      have hcl' := hcl.out
      go_wp2_with (first
        | (go_at_call 42
           refine HCQ.out.mono ?_
           rintro e w4 ⟨rfl, hb4⟩
           have h4 := Lib.hid (HST.out w4 hb4))
        | (at_builtin
           refine wpList_appendG nameC _ rfl (.tmp 17) (.tmp 20) 37 rfl w1.heap.size 9 (.string ⟨#[]⟩) 16 Try.underlying37 infoStrD rfl _ C rfl (h4.out.2.1.alloc_ _) w4.heap.size (.slice (some ⟨w4.heap.size, 0, none⟩) 1 1) [q] rfl (ShowsG.lit (C := nameC) (w := w4) [q] rfl (by simp [maxLen])) (by simp; omega) (by simp; omega) (by have := h4.out.2.2.size; simp; omega) ?_
           intro v5 w5 ho5 hg5))
      have H4 := h4.out
      have hsz4 := H4.2.2.size
      have hnr4 := H4.1.neRow H4.2.1
      have hb5 : Below w1.heap.size w1 w5 := (H4.2.2.alloc H4.2.2.size _).grown hg5 (by simp; omega) (fun j hj => (H4.2.1.block j hj).1)
      have hr5 : RangS strFam w5 mb w1.heap.size L (l1 ++ l2) := H4.1.keep
        ((hg5.block _ (by have := H4.1.map.lt; simp; omega) (fun e => hnr4.2 e.symm)).trans (heap_alloc_old _ _ H4.1.map.lt)) ((hg5.block _ (by have := H4.1.lt; simp; omega) (fun e => hnr4.1 e.symm)).trans (heap_alloc_old _ _ H4.1.lt))
      have hM := HM.out
      have hP := hpm.out
      clear HCQ HST h4 H4 hnr4
      go_roundw
      case rel =>
        refine ⟨l1 ++ l2, C ++ [q], hr5, ho5, Lib.hid ?_, Lib.hid ?_, hb5⟩
        · rw [hM.1] at hP
          refine List.Perm.trans ?_ hP
          simp only [List.map_append, List.map_cons, List.append_assoc, List.singleton_append]
          exact (List.perm_middle.symm).append_left C
        · rw [hM.1] at hcl'
          simp at hcl' ⊢
          omega
      case measure =>
        have := hr5.left_eq
        rw [this, hM.2.1, hM.1]
        simp
end

end Go.Proofs.Ytngjmeohleoglaa
