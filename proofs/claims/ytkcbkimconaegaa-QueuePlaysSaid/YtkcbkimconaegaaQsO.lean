/-
  The program's held, Of and All, of queues.
  Conditions: none but sizes.
-/
import Derived.Test.YtkcbkimconaegaaQsN
import Derived.Test.YtkcbkimconaegaaQpC
namespace Go.Proofs.Ytkcbkimconaegaa
open Go.RowKit
set_option linter.unusedVariables false
set_option linter.unusedSimpArgs false
set_option maxRecDepth 100000

def unV (x : Nat × Value) : Nat × Nat := (x.1, match x.2 with | Value.agg a => (match a.toList with | [Value.int _ z] => z.toNat | _ => 0) | _ => 0)
theorem unV_ownV (y : Nat × Nat) : unV (ownV y) = y := rfl
/-- The numbers of a map's entries whose holders are so. -/
def KS (p : Nat → Bool) (X : List (Nat × Value)) : List Nat := ((X.map unV).filter fun x => p x.2).map (·.1)
theorem KS_append (p : Nat → Bool) (X Y : List (Nat × Value)) : KS p (X ++ Y) = KS p X ++ KS p Y := by simp [KS]
theorem KS_cons (p : Nat → Bool) (q o : Nat) (X : List (Nat × Value)) : KS p ((q, .agg #[.int .u64 o]) :: X) = (if p o = true then [q] else []) ++ KS p X := by
  have e : unV (q, .agg #[.int .u64 o]) = (q, o) := rfl
  unfold KS
  rw [List.map_cons, e, List.filter_cons]
  cases p o <;> simp
def hsel (p : Nat → Bool) (l : List (Nat × Nat)) : List Nat := ((heldQ l).filter fun x => p x.2).map (·.1)
theorem KS_map {M : List (Nat × Value)} {l : List (Nat × Nat)} (p : Nat → Bool) (h : MapQ M l) : (KS p M).Perm (hsel p l) := by
  have h1 := h.1.map unV
  rw [List.map_map, show (unV ∘ ownV) = id from funext unV_ownV, List.map_id] at h1
  exact (h1.filter _).map _
theorem hsel_asc {q : QP} (ho : q.ok) (p : Nat → Bool) : (hsel p q.l).Pairwise (fun a b => a ≤ b) := by
  have h1 : (hsel p q.l).Sublist (q.l.map (·.1)) := ((List.filter_sublist).trans List.filter_sublist).map _
  exact (ho.asc.sublist h1).imp fun h => Nat.le_of_lt h
theorem mapQ_agg {M : List (Nat × Value)} {l : List (Nat × Nat)} (h : MapQ M l) : ∀ x ∈ M, ∃ o : Nat, x.2 = .agg #[.int .u64 o] := fun x hx => by
  have := h.1.mem_iff.1 hx
  obtain ⟨y, _, rfl⟩ := List.mem_map.1 this
  exact ⟨y.2, rfl⟩
theorem RangS.neRowU {w : World} {b r base : Nat} {L left : List (Nat × Value)} {v : Value} {C : List Nat} (h : RangS u64Fam w b r L left) (ho : OwnG (natC .u64) 22 w base v C) : v.ownBlock ≠ some r ∧ v.ownBlock ≠ some b := by
  obtain ⟨⟨es, clock, since, seen, c0, hb, hs, he, hr, _⟩, _⟩ := h
  rcases ho.2 with ⟨rfl, _⟩ | ⟨g, cap, cur, rfl, _, hg, _⟩
  · simp [Value.ownBlock]
  · constructor
    · intro e
      have : g = r := by simpa [Value.ownBlock] using e
      subst this
      rw [hr] at hg
      cases hg
    · intro e
      have : g = b := by simpa [Value.ownBlock] using e
      subst this
      rw [hb] at hg
      cases hg

section
variable {w w' : World} {B qb : Nat} {F : Nat → Prop} {q : QP}
set_option maxHeartbeats 4000000 in
theorem pheldby_any (h : PW w B qb q F) (ho : q.ok) (hn : q.l.length ≤ 1000000) (ow bx : Nat) (hc : w.cell? ⟨bx, 0, none⟩ = some (.int .u64 ow)) (hbx : bx < w.heap.size) :
    Calls Try.prog 47 #[.pointer (some ⟨qb, 0, none⟩), .func (.func 60) #[] #[.pointer (some ⟨bx, 0, none⟩)]] w (NumsQ w (hsel (heldBy ow) q.l)) := by
  obtain ⟨v0, mb, M, h1, _⟩ := h
  have c4 := h1.box.c4
  have hmap := h1.map
  have hmlt := h1.map.lt
  have HAG := Lib.hid (mapQ_agg h1.mq)
  have HKP := Lib.hid (KS_map (heldBy ow) h1.mq)
  have HAS := Lib.hid (hsel_asc ho (heldBy ow))
  have hML : M.length ≤ 1000000 := by rw [h1.mq.len]; exact Nat.le_trans (List.length_filter_le _ _) hn
  have HML := Lib.hid hML
  have HCL := Lib.hid (fun (by_ : Nat) w' (hb : Below w.heap.size w w') => pclo1_any ow by_ bx w' ((World.cell?_of_block (w := w) (hb.block bx hbx)).trans hc))
  clear hc hbx
  unfold NumsQ
  generalize hsel (heldBy ow) q.l = R at *
  generalize hpp : (heldBy ow) = pp at *
  clear h1 hn ho hML hpp
  go_enter Try.func47, Try.ntmps47
  go_wp2_with (at_range; refine wpList_rangeS (fam := u64Fam) _ rfl (.tmp 14) rfl Try.underlying55 rfl hmap ?_; intro w0 hrg0 hg0 hs0)
  have hbw0 : Below w.heap.size w w0 := (Below.refl _ _).grown hg0 (Nat.le_refl _) (fun j hj => by cases hj)
  clear hg0 hs0 hmap c4
  go_frame
  go_loopw [5] (fun v wr => ∃ (left : List (Nat × Value)) (C : List Nat), RangS u64Fam wr mb w.heap.size M left ∧ OwnG (natC .u64) 22 wr w.heap.size v C ∧ Hid ((C ++ KS pp left).Perm (KS pp M)) ∧ Hid (C.length + left.length ≤ M.length) ∧ Below w.heap.size w wr) (fun _ wr => wr.rangeLeft mb w.heap.size)
  case atStart => exact ⟨M, [], hrg0, OwnG.nil_ _ _ _ _, Lib.hid (List.Perm.refl _), Lib.hid (by simp), hbw0⟩
  case round =>
    rename World => wr
    obtain ⟨left, C, hrg, hown, hpm, hcl, hbw⟩ := hrel
    obtain ⟨Av, cv, rfl, _, _⟩ := hown.form
    go_wp2_with (at_next; refine wpList_nextS (fam := u64Fam) (b := mb) (r := w.heap.size) (L := M) (left := left) _ rfl (.tmp 15) rfl rfl hrg ?_ ?_)
    · intro hl0
      have HSO := Lib.hid (sortG_any _ C wr w.heap.size hown (by have := hcl.out; have := HML.out; omega))
      have HN := Lib.hid (show C.Perm R from by
        have := hpm.out
        rw [hl0, show KS pp [] = [] from rfl, List.append_nil] at this
        exact this.trans HKP.out)
      have HBW := Lib.hid (And.intro hbw (hown.block))
      clear hown hpm hcl hbw hrg hl0
      go_wp2_with (go_at_call 49; with_reducible refine HSO.out.mono ?_; rintro e w3 ⟨rfl, C1, hp1, hs1, ho3, hg3⟩)
      go_ret
      exact ⟨_, rfl, by rw [← sorted_rises (hp1.trans HN.out) hs1 HAS.out]; exact ho3, HBW.out.1.grown hg3 HBW.out.1.size fun j hj => (HBW.out.2 j hj).1⟩
    · intro l1 l2 k vq w2 hl hmem hrg2 hg2 hs2 hen
      obtain ⟨o, hvo⟩ := HAG.out _ hmem
      obtain rfl : vq = .agg #[.int .u64 o] := hvo
      have hnr := hrg.neRowU hown
      have hown2 : OwnG (natC .u64) 22 w2 w.heap.size _ C := hown.kept hg2 (.inr hnr.1)
      have hbw2 : Below w.heap.size w w2 := hbw.grown hg2 hbw.size (fun j hj => by cases hj; exact Nat.le_refl _)
      have hen' : (Instr.entry (.pointer (some ⟨w.heap.size, 0, none⟩))).run Try.prog w2 = .ok (.tuple #[.int .u64 k, .agg #[.int .u64 o]]) w2 := hen
      have hmW : mb < w2.heap.size := by have := hbw2.size; omega
      have hrW : w.heap.size < w2.heap.size := hrg2.lt
      have hb3 : Below w2.heap.size w2 (w2.alloc (.cells #[.int .u64 o] 70)) := (Below.refl _ _).alloc (Nat.le_refl _) _
      have hbw3 := hbw2.trans (hb3.mono hbw2.size)
      have hrg3 : RangS u64Fam (w2.alloc (.cells #[.int .u64 o] 70)) mb w.heap.size M (l1 ++ l2) := hrg2.keep (hb3.block _ hmW) (hb3.block _ hrW)
      have hown3 := hown2.below hb3 (Nat.le_refl _)
      obtain ⟨W3, hW3⟩ : ∃ W3, W3 = w2.alloc (.cells #[.int .u64 o] 70) := ⟨_, rfl⟩
      rw [← hW3] at hbw3 hrg3 hown3
      have c_h : W3.cell? ⟨w2.heap.size, 0, none⟩ = some (.int .u64 o) := by rw [hW3, cell_of_row _ _ _ _ _ (0, 0) (heap_alloc_new w2 _)]; rfl
      have HCQ := Lib.hid (HCL.out o W3 hbw3)
      have HPM := Lib.hid (show (C ++ (KS pp l1 ++ ((if pp o = true then [k] else []) ++ KS pp l2))).Perm (KS pp M) from by have := hpm.out; rw [hl, KS_append, KS_cons] at this; exact this)
      have hle1 : wr.rangeLeft mb w.heap.size = l1.length + l2.length + 1 := by rw [hrg.left_eq, hl]; simp; omega
      have hcl' : C.length + (l1.length + l2.length + 1) ≤ M.length := by have := hcl.out; rw [hl, List.length_append, List.length_cons] at this; omega
      have hCn : C.length + 1 ≤ 1000000 := by have := HML.out; omega
      have HCN := Lib.hid (And.intro hcl' hle1)
      obtain ⟨b, hb⟩ : ∃ b, b = pp o := ⟨_, rfl⟩
      rw [← hb] at HCQ HPM
      clear hs2 hen hown hbw hrg hg2 hown2 hbw2 hrg2 hnr hl hmW hrW hmem hb hb3 hpm hcl hle1 hcl'
      go_upto_region 7 with fail
      rw [← hW3]
      clear hW3 hen'
      go_wp2_with fail
      refine HCQ.out.mono ?_
      rintro e w4 ⟨rfl, hw4⟩
      rw [hw4]
      clear hw4
      cases b with
      | false =>
        go_wp2_with fail
        go_roundw
        case rel => exact ⟨l1 ++ l2, C, hrg3, hown3, Lib.hid (by rw [KS_append]; simpa using HPM.out), Lib.hid (by have := HCN.out.1; simp; omega), hbw3⟩
        case measure => rw [hrg3.left_eq, HCN.out.2]; simp
      | true =>
        have hm : ShowsG (natC .u64) (W3.alloc (Obj.cells #[.int .u64 (k : Nat)] 22)) W3.heap.size (.slice (some ⟨W3.heap.size, 0, none⟩) 1 1) [k] := ShowsG.lit (C := natC .u64) [k] (by simp [Code.all, natC]) (by simp [maxLen])
        have ho4 := hown3.alloc_ (Obj.cells #[.int .u64 (k : Nat)] 22)
        have hb4 : Below w.heap.size w (W3.alloc (Obj.cells #[.int .u64 (k : Nat)] 22)) := hbw3.alloc hbw3.size _
        have hz4 := hb4.size
        have HZ := Lib.hid hz4
        have HO4 := Lib.hid ho4
        have HB4 := Lib.hid hb4
        have HRG := Lib.hid (And.intro hrg3 hown3)
        clear hown3 hbw3 hrg3 hb4
        go_wp2_with (at_builtin
                     refine wpList_appendG (natC .u64) _ rfl (.tmp 25) (.tmp 27) 42 rfl w.heap.size 22 _ 8 Try.underlying42 infoU64 rfl _ C rfl ho4 W3.heap.size _ [k] rfl hm (by simp; omega) (by simp; omega) (by omega) ?_
                     intro v5 w5 ho5 hg5)
        have H4 := HRG.out
        have hnr4 := H4.1.neRowU H4.2
        have hb5 : Below w.heap.size w w5 := HB4.out.grown hg5 HB4.out.size (fun j hj => (HO4.out.block j hj).1)
        have hr5 : RangS u64Fam w5 mb w.heap.size M (l1 ++ l2) := H4.1.keep
          ((hg5.block _ (by have := H4.1.map.lt; simp; omega) (fun e => hnr4.2 e.symm)).trans (heap_alloc_old _ _ H4.1.map.lt)) ((hg5.block _ (by have := H4.1.lt; simp; omega) (fun e => hnr4.1 e.symm)).trans (heap_alloc_old _ _ H4.1.lt))
        clear hm ho4 hz4
        go_roundw
        case rel =>
          refine ⟨l1 ++ l2, C ++ [k], hr5, ho5, Lib.hid ?_, Lib.hid (by have := HCN.out.1; simp; omega), hb5⟩
          refine List.Perm.trans ?_ HPM.out
          rw [KS_append, if_pos trivial]
          simp only [List.append_assoc, List.singleton_append]
          exact (List.perm_middle.symm).append_left C
        case measure => rw [hr5.left_eq, HCN.out.2]; simp
set_option maxHeartbeats 4000000 in
theorem pheldall_any (h : PW w B qb q F) (ho : q.ok) (hn : q.l.length ≤ 1000000)  :
    Calls Try.prog 47 #[.pointer (some ⟨qb, 0, none⟩), .func (.func 48) #[] #[]] w (NumsQ w (hsel (fun _ => true) q.l)) := by
  obtain ⟨v0, mb, M, h1, _⟩ := h
  have c4 := h1.box.c4
  have hmap := h1.map
  have hmlt := h1.map.lt
  have HAG := Lib.hid (mapQ_agg h1.mq)
  have HKP := Lib.hid (KS_map (fun _ => true) h1.mq)
  have HAS := Lib.hid (hsel_asc ho (fun _ => true))
  have hML : M.length ≤ 1000000 := by rw [h1.mq.len]; exact Nat.le_trans (List.length_filter_le _ _) hn
  have HML := Lib.hid hML
  have HCL := Lib.hid (fun (by_ : Nat) w' (hb : Below w.heap.size w w') => (show Calls Try.prog 48 #[.int .u64 by_] w' (fun e w2 => e = .returned (.bool ((fun _ : Nat => true) by_)) ∧ w2 = w') from pclo3_any by_ w'))
  unfold NumsQ
  generalize hsel (fun _ => true) q.l = R at *
  generalize hpp : (fun _ => true) = pp at *
  clear h1 hn ho hML hpp
  go_enter Try.func47, Try.ntmps47
  go_wp2_with (at_range; refine wpList_rangeS (fam := u64Fam) _ rfl (.tmp 14) rfl Try.underlying55 rfl hmap ?_; intro w0 hrg0 hg0 hs0)
  have hbw0 : Below w.heap.size w w0 := (Below.refl _ _).grown hg0 (Nat.le_refl _) (fun j hj => by cases hj)
  clear hg0 hs0 hmap c4
  go_frame
  go_loopw [5] (fun v wr => ∃ (left : List (Nat × Value)) (C : List Nat), RangS u64Fam wr mb w.heap.size M left ∧ OwnG (natC .u64) 22 wr w.heap.size v C ∧ Hid ((C ++ KS pp left).Perm (KS pp M)) ∧ Hid (C.length + left.length ≤ M.length) ∧ Below w.heap.size w wr) (fun _ wr => wr.rangeLeft mb w.heap.size)
  case atStart => exact ⟨M, [], hrg0, OwnG.nil_ _ _ _ _, Lib.hid (List.Perm.refl _), Lib.hid (by simp), hbw0⟩
  case round =>
    rename World => wr
    obtain ⟨left, C, hrg, hown, hpm, hcl, hbw⟩ := hrel
    obtain ⟨Av, cv, rfl, _, _⟩ := hown.form
    go_wp2_with (at_next; refine wpList_nextS (fam := u64Fam) (b := mb) (r := w.heap.size) (L := M) (left := left) _ rfl (.tmp 15) rfl rfl hrg ?_ ?_)
    · intro hl0
      have HSO := Lib.hid (sortG_any _ C wr w.heap.size hown (by have := hcl.out; have := HML.out; omega))
      have HN := Lib.hid (show C.Perm R from by
        have := hpm.out
        rw [hl0, show KS pp [] = [] from rfl, List.append_nil] at this
        exact this.trans HKP.out)
      have HBW := Lib.hid (And.intro hbw (hown.block))
      clear hown hpm hcl hbw hrg hl0
      go_wp2_with (go_at_call 49; with_reducible refine HSO.out.mono ?_; rintro e w3 ⟨rfl, C1, hp1, hs1, ho3, hg3⟩)
      go_ret
      exact ⟨_, rfl, by rw [← sorted_rises (hp1.trans HN.out) hs1 HAS.out]; exact ho3, HBW.out.1.grown hg3 HBW.out.1.size fun j hj => (HBW.out.2 j hj).1⟩
    · intro l1 l2 k vq w2 hl hmem hrg2 hg2 hs2 hen
      obtain ⟨o, hvo⟩ := HAG.out _ hmem
      obtain rfl : vq = .agg #[.int .u64 o] := hvo
      have hnr := hrg.neRowU hown
      have hown2 : OwnG (natC .u64) 22 w2 w.heap.size _ C := hown.kept hg2 (.inr hnr.1)
      have hbw2 : Below w.heap.size w w2 := hbw.grown hg2 hbw.size (fun j hj => by cases hj; exact Nat.le_refl _)
      have hen' : (Instr.entry (.pointer (some ⟨w.heap.size, 0, none⟩))).run Try.prog w2 = .ok (.tuple #[.int .u64 k, .agg #[.int .u64 o]]) w2 := hen
      have hmW : mb < w2.heap.size := by have := hbw2.size; omega
      have hrW : w.heap.size < w2.heap.size := hrg2.lt
      have hb3 : Below w2.heap.size w2 (w2.alloc (.cells #[.int .u64 o] 70)) := (Below.refl _ _).alloc (Nat.le_refl _) _
      have hbw3 := hbw2.trans (hb3.mono hbw2.size)
      have hrg3 : RangS u64Fam (w2.alloc (.cells #[.int .u64 o] 70)) mb w.heap.size M (l1 ++ l2) := hrg2.keep (hb3.block _ hmW) (hb3.block _ hrW)
      have hown3 := hown2.below hb3 (Nat.le_refl _)
      obtain ⟨W3, hW3⟩ : ∃ W3, W3 = w2.alloc (.cells #[.int .u64 o] 70) := ⟨_, rfl⟩
      rw [← hW3] at hbw3 hrg3 hown3
      have c_h : W3.cell? ⟨w2.heap.size, 0, none⟩ = some (.int .u64 o) := by rw [hW3, cell_of_row _ _ _ _ _ (0, 0) (heap_alloc_new w2 _)]; rfl
      have HCQ := Lib.hid (HCL.out o W3 hbw3)
      have HPM := Lib.hid (show (C ++ (KS pp l1 ++ ((if pp o = true then [k] else []) ++ KS pp l2))).Perm (KS pp M) from by have := hpm.out; rw [hl, KS_append, KS_cons] at this; exact this)
      have hle1 : wr.rangeLeft mb w.heap.size = l1.length + l2.length + 1 := by rw [hrg.left_eq, hl]; simp; omega
      have hcl' : C.length + (l1.length + l2.length + 1) ≤ M.length := by have := hcl.out; rw [hl, List.length_append, List.length_cons] at this; omega
      have hCn : C.length + 1 ≤ 1000000 := by have := HML.out; omega
      have HCN := Lib.hid (And.intro hcl' hle1)
      obtain ⟨b, hb⟩ : ∃ b, b = pp o := ⟨_, rfl⟩
      rw [← hb] at HCQ HPM
      clear hs2 hen hown hbw hrg hg2 hown2 hbw2 hrg2 hnr hl hmW hrW hmem hb hb3 hpm hcl hle1 hcl'
      go_upto_region 7 with fail
      rw [← hW3]
      clear hW3 hen'
      go_wp2_with fail
      refine HCQ.out.mono ?_
      rintro e w4 ⟨rfl, hw4⟩
      rw [hw4]
      clear hw4
      cases b with
      | false =>
        go_wp2_with fail
        go_roundw
        case rel => exact ⟨l1 ++ l2, C, hrg3, hown3, Lib.hid (by rw [KS_append]; simpa using HPM.out), Lib.hid (by have := HCN.out.1; simp; omega), hbw3⟩
        case measure => rw [hrg3.left_eq, HCN.out.2]; simp
      | true =>
        have hm : ShowsG (natC .u64) (W3.alloc (Obj.cells #[.int .u64 (k : Nat)] 22)) W3.heap.size (.slice (some ⟨W3.heap.size, 0, none⟩) 1 1) [k] := ShowsG.lit (C := natC .u64) [k] (by simp [Code.all, natC]) (by simp [maxLen])
        have ho4 := hown3.alloc_ (Obj.cells #[.int .u64 (k : Nat)] 22)
        have hb4 : Below w.heap.size w (W3.alloc (Obj.cells #[.int .u64 (k : Nat)] 22)) := hbw3.alloc hbw3.size _
        have hz4 := hb4.size
        have HZ := Lib.hid hz4
        have HO4 := Lib.hid ho4
        have HB4 := Lib.hid hb4
        have HRG := Lib.hid (And.intro hrg3 hown3)
        clear hown3 hbw3 hrg3 hb4
        go_wp2_with (at_builtin
                     refine wpList_appendG (natC .u64) _ rfl (.tmp 25) (.tmp 27) 42 rfl w.heap.size 22 _ 8 Try.underlying42 infoU64 rfl _ C rfl ho4 W3.heap.size _ [k] rfl hm (by simp; omega) (by simp; omega) (by omega) ?_
                     intro v5 w5 ho5 hg5)
        have H4 := HRG.out
        have hnr4 := H4.1.neRowU H4.2
        have hb5 : Below w.heap.size w w5 := HB4.out.grown hg5 HB4.out.size (fun j hj => (HO4.out.block j hj).1)
        have hr5 : RangS u64Fam w5 mb w.heap.size M (l1 ++ l2) := H4.1.keep
          ((hg5.block _ (by have := H4.1.map.lt; simp; omega) (fun e => hnr4.2 e.symm)).trans (heap_alloc_old _ _ H4.1.map.lt)) ((hg5.block _ (by have := H4.1.lt; simp; omega) (fun e => hnr4.1 e.symm)).trans (heap_alloc_old _ _ H4.1.lt))
        clear hm ho4 hz4
        go_roundw
        case rel =>
          refine ⟨l1 ++ l2, C ++ [k], hr5, ho5, Lib.hid ?_, Lib.hid (by have := HCN.out.1; simp; omega), hb5⟩
          refine List.Perm.trans ?_ HPM.out
          rw [KS_append, if_pos trivial]
          simp only [List.append_assoc, List.singleton_append]
          exact (List.perm_middle.symm).append_left C
        case measure => rw [hr5.left_eq, HCN.out.2]; simp
theorem hsel_of (ow : Nat) (l : List (Nat × Nat)) : hsel (heldBy ow) l = ofP ow l := by
  unfold hsel ofP heldQ heldBy ofQ
  rw [List.filter_filter]
  by_cases h0 : ow = 0
  · rw [if_pos h0]
    have : l.filter (fun x => decide (ow ≠ 0 ∧ x.2 = ow) && decide (x.2 ≠ 0)) = [] := by
      rw [List.filter_eq_nil_iff]
      intro x _
      simp [h0]
    rw [this]; rfl
  · rw [if_neg h0]
    congr 1
    apply List.filter_congr
    intro x _
    by_cases hx : x.2 = ow
    · simp [hx, h0]
    · simp [hx]
theorem hsel_all (l : List (Nat × Nat)) : (hsel (fun _ => true) l ++ ofQ 0 l).Perm (allQ l) := by
  unfold hsel allQ heldQ ofQ
  rw [List.filter_filter, ← List.map_append]
  refine List.Perm.map _ ?_
  have h := List.filter_append_perm (fun x : Nat × Nat => decide (x.2 ≠ 0)) l
  have e1 : l.filter (fun x => (fun _ => true) x.2 && decide (x.2 ≠ 0)) = l.filter (fun x => decide (x.2 ≠ 0)) := List.filter_congr fun x _ => by simp
  have e2 : l.filter (fun x => decide (x.2 = 0)) = l.filter (fun x => !decide (x.2 ≠ 0)) := List.filter_congr fun x _ => by simp
  rw [e1, e2]
  exact h
theorem allQ_asc {q : QP} (ho : q.ok) : (allQ q.l).Pairwise (fun a b => a ≤ b) := ho.asc.imp fun h => Nat.le_of_lt h

theorem pof_any (h : PW w B qb q F) (ho : q.ok) (hn : q.l.length ≤ 1000000) (ow : Nat) (hi : ow < 18446744073709551616) :
    Calls Try.prog 19 #[.pointer (some ⟨qb, 0, none⟩), .int .u64 ow] w (NumsQ w (ofP ow q.l)) := by
  have hb1 : Below w.heap.size w (w.alloc (.cells #[.int .u64 ow] 22)) := (Below.refl _ _).alloc (Nat.le_refl _) _
  have hc1 : (w.alloc (.cells #[.int .u64 ow] 22)).cell? ⟨w.heap.size, 0, none⟩ = some (.int .u64 ow) := by rw [cell_of_row _ _ _ _ _ (0, 0) (heap_alloc_new w _)]; rfl
  have HI := Lib.hid (pheld_any ow w)
  have HH := Lib.hid (pheldby_any (h.below hb1) ho hn ow w.heap.size hc1 (by rw [World.size_alloc]; exact Nat.lt_succ_self _))
  rw [hsel_of] at HH
  have HB := Lib.hid hb1
  generalize ofP ow q.l = R at *
  clear h ho hn hi hb1 hc1
  go_enter Try.func19, Try.ntmps19
  go_wp2_with fail
  refine HI.out.mono ?_
  rintro e w1 ⟨rfl, hw1⟩
  obtain ⟨W1, hW1⟩ : ∃ W1, W1 = w.alloc (.cells #[.int .u64 ow] 22) := ⟨_, rfl⟩
  rw [← hW1] at HH HB hw1
  rw [hw1]
  clear hw1 hW1
  go_wp2_with fail
  refine HH.out.mono ?_
  rintro e w2 ⟨v, rfl, h1, h2⟩
  have HX := Lib.hid (And.intro h1 h2)
  clear h1 h2
  go_wp2_with fail
  go_ret
  exact ⟨v, rfl, HX.out.1.mono HB.out.size, HB.out.trans (HX.out.2.mono HB.out.size)⟩

set_option maxHeartbeats 4000000 in
theorem pall_any (h : PW w B qb q F) (ho : q.ok) (hn : q.l.length ≤ 1000000) :
    Calls Try.prog 17 #[.pointer (some ⟨qb, 0, none⟩)] w (NumsQ w (allQ q.l)) := by
  have HH := Lib.hid (pheldall_any h ho hn)
  have HPM := Lib.hid (hsel_all q.l)
  have HAS := Lib.hid (allQ_asc ho)
  obtain ⟨v0, mb, M, h1, _⟩ := h
  obtain ⟨A0, cc0, rfl, _, _⟩ := h1.row.form
  have HQ := Lib.hid (fun w' (hb : Below w.heap.size w w') => (show w'.cell? ⟨qb, 3, none⟩ = some (.slice A0 (ofQ 0 q.l).length cc0) ∧ ∃ d, ShowsG (natC .u64) w' d (.slice A0 (ofQ 0 q.l).length cc0) (ofQ 0 q.l) from by
    obtain ⟨d, _, hs⟩ := (h1.below hb).row.shows
    exact ⟨(h1.below hb).box.c3, d, hs⟩))
  have hlen : (hsel (fun _ => true) q.l ++ ofQ 0 q.l).length ≤ 1000000 := by
    rw [HPM.out.length_eq]
    simpa [allQ] using hn
  rw [List.length_append] at hlen
  unfold NumsQ
  clear h1 hn ho
  generalize hsel (fun _ => true) q.l = H at *
  generalize ofQ 0 q.l = Z at *
  generalize allQ q.l = R at *
  go_enter Try.func17, Try.ntmps17
  go_wp2_with fail
  refine HH.out.mono ?_
  rintro e w1 ⟨v, rfl, ho1, hb1⟩
  obtain ⟨c3, d, hm⟩ := HQ.out w1 hb1
  obtain ⟨Av, cv, rfl, _, _⟩ := ho1.form
  have hz1 := hb1.size
  go_wp2_with (at_builtin
               refine wpList_appendG (natC .u64) _ rfl (.tmp 8) (.tmp 12) 42 rfl w.heap.size 22 _ 8 Try.underlying42 infoU64 rfl _ H rfl ho1 d _ Z rfl hm (by omega) (by omega) (by omega) ?_
               intro v3 w3 ho3 hg3)
  have HB3 := Lib.hid (show Below w.heap.size w w3 from hb1.grown hg3 hz1 (fun k hk => (ho1.block k hk).1))
  have HSO := Lib.hid (sortG_any _ (H ++ Z) w3 w.heap.size ho3 (by rw [List.length_append]; exact hlen))
  have HBK := Lib.hid ho3.block
  clear ho1 hb1 c3 hm hz1 hg3 ho3 hlen
  go_wp2_with fail
  refine HSO.out.mono ?_
  rintro e w4 ⟨rfl, C1, hp1, hs1, ho4, hg4⟩
  have HX := Lib.hid (And.intro hp1 (And.intro hs1 (And.intro ho4 hg4)))
  clear hp1 hs1 ho4 hg4
  go_wp2_with fail
  go_ret
  exact ⟨_, rfl, by rw [← sorted_rises (HX.out.1.trans HPM.out) HX.out.2.1 HAS.out]; exact HX.out.2.2.1, HB3.out.grown HX.out.2.2.2 HB3.out.size fun j hj => (HBK.out j hj).1⟩
end

end Go.Proofs.Ytkcbkimconaegaa
