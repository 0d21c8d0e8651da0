/-
  The document's Purge and Drop of queues.
  Conditions: none but sizes.
-/
import Derived.Test.YtkcbkimconaegaaQuD
namespace Go.Proofs.Ytkcbkimconaegaa
open Go.RowKit
set_option linter.unusedVariables false
set_option linter.unusedSimpArgs false
set_option maxRecDepth 100000

section
variable {w w' : World} {B qb : Nat} {F : Nat → Prop} {q : QP}
/-- A new row is stored. -/
theorem QI.newrow {A A1 : Option Addr} {c c1 : Nat} {l : List (Nat × Nat)} {n : Nat} (h : QI w B qb A c q) (hn : n = l.length) (ho : OwnG (pairC .u64) 68 w B (.slice A1 n c1) l) (hne : ∀ g, (Value.slice A1 n c1).ownBlock = some g → g ≠ qb) :
    QI (w.setCell ⟨qb, 1, none⟩ (.slice A1 n c1)) B qb A1 c1 { q with l := l } := by
  subst hn
  exact ⟨heap_setCell_same w qb 1 _ 29 _ h.box, ho.keep fun g hg => Below.heap_setCell _ _ _ _ (by show g ≠ qb; exact hne g hg), hne, h.hB⟩
theorem LeftQ.newrow {w1 : World} {A A1 : Option Addr} {c c1 : Nat} {l : List (Nat × Nat)} {n : Nat} (h0 : QI w B qb A c q) (hm : MovedQ (FQ qb A q.l.length c) w w1) (h : QI w1 B qb A c q) (hn : n = l.length) (ho : OwnG (pairC .u64) 68 w1 w.heap.size (.slice A1 n c1) l) :
    LeftQ w B qb (FQ qb A q.l.length c) { q with l := l } (w1.setCell ⟨qb, 1, none⟩ (.slice A1 n c1)) := by
  have hlt := h0.lt
  have hB := h0.hB
  have hne : ∀ g, (Value.slice A1 n c1).ownBlock = some g → g ≠ qb := fun g hg => by have := (ho.block g hg).1; omega
  refine ⟨_, ⟨A1, c1, h.newrow hn (ho.mono (by omega)) hne, rfl⟩, fun k hk => ?_, hm.setCell (fun _ => .inl rfl) _ _⟩
  rcases hk with rfl | hk
  · exact .inl (.inl rfl)
  · refine .inr (ho.block k ?_).1
    rw [hn]
    exact hk

def PurgeSaid (w : World) (B qb : Nat) (F : Nat → Prop) (r : List Nat × QP) (e : Ending) (w' : World) : Prop := ∃ v, e = .returned v ∧ OwnG (natC .u64) 22 w' w.heap.size v r.1 ∧ (∀ g, v.ownBlock = some g → g ≠ qb) ∧ ∃ F', QW w' B qb r.2 F' ∧ (∀ k, F' k → (F k ∨ w.heap.size ≤ k) ∧ v.ownBlock ≠ some k) ∧ MovedQ F w w'
set_option maxHeartbeats 2000000 in
theorem qpurge_any (h : QW w B qb q F) (hn : q.l.length ≤ 1000000) : Calls Try.prog 37 #[.pointer (some ⟨qb, 0, none⟩)] w (PurgeSaid w B qb F q.purge) := by
  have HOF := Lib.hid (qof_any h hn 0)
  obtain ⟨A, c, h1, rfl⟩ := h
  have HQ := Lib.hid (fun w' (hb : Below w.heap.size w w') => h1.below hb)
  have H1 := Lib.hid h1
  have HT := Lib.hid (heldQ_take q.l)
  have HL := Lib.hid (fun j (hj : j ≤ q.l.length) => (show (heldQ (q.l.take j)).length ≤ j from by have : (heldQ (q.l.take j)).length ≤ (q.l.take j).length := List.length_filter_le _ _; rw [List.length_take] at this; omega))
  have h0 : heldQ (q.l.take 0) = [] := by simp [heldQ]
  have hp : q.purge = (ofQ 0 q.l, { q with l := heldQ q.l }) := rfl
  rw [hp]
  unfold NumsQ at HOF
  unfold PurgeSaid
  clear h1 hp
  go_enter Try.func37, Try.ntmps37
  go_wp2_with fail
  refine HOF.out.mono ?_
  rintro e w1 ⟨v1, rfl, ho1, hb1⟩
  have HO1 := Lib.hid ho1
  have hz1 := hb1.size
  have HB1 := Lib.hid hb1
  clear ho1 hb1
  go_wp2_with fail
  go_loopw [4, 5] (fun lv iv wr => ∃ j : Nat, j ≤ q.l.length ∧ iv = .int .i64 j ∧ OwnG (pairC .u64) 68 wr w1.heap.size lv (heldQ (q.l.take j)) ∧ Below w1.heap.size w1 wr) (fun _ iv _ => q.l.length - (intOf iv).toNat)
  case atStart => exact ⟨0, by omega, rfl, by rw [h0]; exact OwnG.nil_ _ _ _ _, Below.refl _ _⟩
  case round =>
    clear h0
    obtain ⟨j, hj, rfl, ho, hb⟩ := hrel
    rename World => wr
    have hbw := HB1.out.trans (hb.mono hz1)
    have c1 := (HQ.out wr hbw).c1
    have hsz := hb.size
    by_cases hlt : j < q.l.length
    · obtain ⟨b, rfl, hbq, k0, k1, kf⟩ := (HQ.out wr hbw).at_ hlt
      have b1 : (j : Int) < (q.l.length : Int) := by omega
      have b3 : IntKind.i64.wrap ((j : Int) + 1) = (j : Int) + 1 := i64_id _ (by omega) (by omega)
      have hT := HT.out j hlt
      have hL := HL.out j hj
      by_cases he : q.l[j].2 ≠ 0
      · rw [if_pos he] at hT
        have HTJ := Lib.hid hT
        have ht : ((q.l[j].2 : Int) != 0) = true := by rw [bne_iff_ne]; omega
        have hm : ShowsG (pairC .u64) (wr.alloc (Obj.cells #[.int .u64 (q.l[j].1 : Nat), .int .u64 (q.l[j].2 : Nat)] 68)) wr.heap.size (.slice (some ⟨wr.heap.size, 0, none⟩) 1 1) [q.l[j]] := ShowsG.lit (C := pairC .u64) [q.l[j]] (by simp [Code.all, pairC]) (by simp [maxLen])
        have ho2 := ho.alloc_ (Obj.cells #[.int .u64 (q.l[j].1 : Nat), .int .u64 (q.l[j].2 : Nat)] 68)
        have hb2 : Below w1.heap.size w1 (wr.alloc (Obj.cells #[.int .u64 (q.l[j].1 : Nat), .int .u64 (q.l[j].2 : Nat)] 68)) := hb.alloc hsz _
        have HB2 := Lib.hid hb2
        have hz2 := hb2.size
        clear hT ho hb hb2 kf hbq he hbw
        generalize heldQ (q.l.take j) = L0 at *
        go_wp2_with (at_builtin
                     refine wpList_appendG (pairC .u64) _ rfl (.tmp 26) (.tmp 34) 27 rfl w1.heap.size 68 _ 16 Try.underlying27 infoMs rfl _ L0 rfl ho2 wr.heap.size _ [q.l[j]] rfl hm (by simp; omega) (by simp; omega) (by omega) ?_
                     intro v3 w3 ho3 hg3)
        have hb3 : Below w1.heap.size w1 w3 := HB2.out.grown hg3 hz2 (fun k hk => (ho2.block k hk).1)
        go_roundw
        case rel => exact ⟨j + 1, by omega, by go_num, by rw [HTJ.out]; exact ho3, hb3⟩
        case measure => simp [intOf]; omega
      · rw [if_neg he] at hT
        have HTJ := Lib.hid hT
        have he0 : q.l[j].2 = 0 := by omega
        rw [he0] at k1
        clear hT he kf hbq hbw he0
        go_wp2_with fail
        go_roundw
        case rel => exact ⟨j + 1, by omega, by go_num, by rw [HTJ.out]; exact ho, hb⟩
        case measure => simp [intOf]; omega
    · have b1 : ¬ (j : Int) < (q.l.length : Int) := by omega
      obtain rfl : j = q.l.length := by omega
      rw [List.take_length] at ho
      obtain ⟨A3, c3, hv3, _, _⟩ := ho.form
      obtain ⟨n1, hn1⟩ : ∃ n, n = (heldQ q.l).length := ⟨_, rfl⟩
      rw [← hn1] at hv3
      subst hv3
      have hQ := HQ.out wr hbw
      have f1 := hQ.fr 1
      have hqb := H1.out.lt
      have hFIN := LeftQ.newrow H1.out (MovedQ.of_below hbw) hQ hn1 (ho.mono hz1)
      have hv1 : ∀ g, v1.ownBlock = some g → w.heap.size ≤ g ∧ g < w1.heap.size := HO1.out.block
      have HFIN : Hid (∃ v, Ending.returned v1 = .returned v ∧ OwnG (natC .u64) 22 (wr.setCell ⟨qb, 1, none⟩ (.slice A3 n1 c3)) w.heap.size v (ofQ 0 q.l) ∧ (∀ g, v.ownBlock = some g → g ≠ qb) ∧ ∃ F', QW (wr.setCell ⟨qb, 1, none⟩ (.slice A3 n1 c3)) B qb { q with l := heldQ q.l } F' ∧ (∀ k, F' k → (FQ qb A q.l.length c k ∨ w.heap.size ≤ k) ∧ v.ownBlock ≠ some k) ∧ MovedQ (FQ qb A q.l.length c) w (wr.setCell ⟨qb, 1, none⟩ (.slice A3 n1 c3))) := Lib.hid (by
        have hne : ∀ g, (Value.slice A3 n1 c3).ownBlock = some g → g ≠ qb := fun g hg => by have := (ho.block g hg).1; omega
        refine ⟨v1, rfl, HO1.out.keep fun g hg => (Below.heap_setCell _ _ _ _ (by show g ≠ qb; have := (hv1 g hg).1; omega)).trans (hb.block g (hv1 g hg).2), fun g hg => by have := (hv1 g hg).1; omega, _, ⟨A3, c3, hQ.newrow hn1 ((ho.mono hz1).mono (by have := H1.out.hB; omega)) hne, rfl⟩, fun k hk => ?_, (MovedQ.of_below hbw).setCell (fun _ => .inl rfl) _ _⟩
        rcases hk with rfl | hk
        · exact ⟨.inl (.inl rfl), fun e => by have := (hv1 _ e).1; omega⟩
        · have hk2 : (Value.slice A3 n1 c3).ownBlock = some k := by rw [hn1]; exact hk
          have := (ho.block k hk2).1
          exact ⟨.inr (by omega), fun e => by have := (hv1 _ e).2; omega⟩)
      clear hFIN hQ ho hb hbw hn1
      go_wp2_with fail
      go_ret
      exact HFIN.out
end

end Go.Proofs.Ytkcbkimconaegaa
