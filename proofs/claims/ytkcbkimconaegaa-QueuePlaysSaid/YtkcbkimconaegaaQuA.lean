/-
  The document's Room, Find and put of queues.
  Conditions: none but sizes.
-/
import Derived.Test.YtkcbkimconaegaaQuM
import Derived.Deep.QuietTactic
import Derived.BigQuiet
import Derived.Deep.CutRange
import Derived.Deep.CutBlock
import Derived.Deep.DeepCutAuto
namespace Go.Proofs.Ytkcbkimconaegaa
open Go.RowKit
set_option linter.unusedVariables false
set_option linter.unusedSimpArgs false
set_option maxRecDepth 100000

section
variable {w w' : World} {B qb : Nat} {F : Nat → Prop} {q : QP}
theorem qroom_any (h : QW w B qb q F) (ho : q.ok) : Calls Try.prog 40 #[.pointer (some ⟨qb, 0, none⟩)] w fun e w' => e = .returned (.int .u64 q.room) ∧ Below w.heap.size w w' := by
  obtain ⟨A, c, h1, _⟩ := h
  have c0 := h1.c0
  have c1 := h1.c1
  have c2 := h1.c2
  have hf := ho.fit
  have hl := ho.lim
  obtain ⟨n, hn⟩ : ∃ n, n = q.l.length := ⟨_, rfl⟩
  obtain ⟨u, hu⟩ : ∃ u, u = n + q.kept := ⟨_, rfl⟩
  have eu : (n : Int) + (q.kept : Int) = (u : Int) := by omega
  have u1 : IntKind.u64.wrap (n : Int) = (n : Int) := by rw [IntKind.wrap_u64]; omega
  have u2 : IntKind.u64.wrap (q.kept : Int) = (q.kept : Int) := by rw [IntKind.wrap_u64]; omega
  have u3 : IntKind.u64.wrap ((n : Int) + (q.kept : Int)) = (u : Int) := by rw [IntKind.wrap_u64]; omega
  obtain ⟨r, hr⟩ : ∃ r, r = q.room := ⟨_, rfl⟩
  have u4 : IntKind.u64.wrap ((q.lim : Int) - (u : Int)) = (r : Int) := by rw [IntKind.wrap_u64, hr]; unfold QP.room; omega
  have t1 : ¬ (q.lim : Int) < (u : Int) := by omega
  rw [← hr]
  rw [← hn] at c1
  have HEU := Lib.hid eu
  clear h1 hr hu hn eu hf hl
  generalize q.lim = lim at *
  generalize q.kept = kept at *
  go_enter Try.func40, Try.ntmps40
  go_wp2_with fail
  go_quiet (fail)
  go_wp2_with fail
  go_ret
  exact ⟨rfl, below_drewN (Below.refl _ _) _⟩

/-- Where a message is. -/
def placeV (r : Option Nat) : Int := match r with | none => -1 | some i => (i : Int)
set_option maxHeartbeats 1000000 in
theorem qfind_any (h : QW w B qb q F) (hn : q.l.length ≤ 1000000) (id : Nat) : Calls Try.prog 11 #[.pointer (some ⟨qb, 0, none⟩), .int .u64 id] w fun e w' => e = .returned (.int .i64 (placeV (q.find id))) ∧ w' = w := by
  obtain ⟨A, c, h1, _⟩ := h
  have HQ := Lib.hid h1
  have c1 := h1.c1
  have HP1 := Lib.hid (fun (i : Nat) (hi : i < q.l.length) (h : q.l[i].1 = id) (hb : ∀ j (h : j < q.l.length), j < i → q.l[j].1 ≠ id) => (show q.find id = some i from placeQ_some hi (by simpa using h) (fun j hj hji => by simpa using hb j hj hji)))
  have HP2 := Lib.hid (fun (hb : ∀ j (h : j < q.l.length), q.l[j].1 ≠ id) => (show q.find id = none from placeQ_none (fun j hj => by simpa using hb j hj)))
  generalize q.find id = R at *
  clear h1
  go_enter Try.func11, Try.ntmps11
  go_wp2_with fail
  go_loopw [5] (fun iv wr => ∃ j : Nat, j ≤ q.l.length ∧ iv = .int .i64 j ∧ wr = w ∧ Hid (∀ k (h : k < q.l.length), k < j → q.l[k].1 ≠ id)) (fun iv _ => q.l.length - (intOf iv).toNat)
  case atStart => exact ⟨0, by omega, rfl, rfl, Lib.hid fun k _ h => absurd h (by omega)⟩
  case round =>
    obtain ⟨j, hj, rfl, rfl, hne⟩ := hrel
    by_cases hlt : j < q.l.length
    · obtain ⟨b, rfl, _, k0, k1, _⟩ := HQ.out.at_ hlt
      have b1 : (j : Int) < (q.l.length : Int) := by omega
      have b3 : IntKind.i64.wrap ((j : Int) + 1) = (j : Int) + 1 := i64_id _ (by omega) (by omega)
      by_cases he : q.l[j].1 = id
      · obtain rfl := HP1.out j hlt he (hne.out)
        have ht : ((q.l[j].1 : Int) == (id : Int)) = true := by simp [he]
        generalize q.l[j].1 = y at *
        generalize q.l[j].2 = z at *
        clear he
        go_wp2_with fail
        go_ret
        exact ⟨rfl, rfl⟩
      · have ht : ((q.l[j].1 : Int) == (id : Int)) = false := by rw [beq_eq_false_iff_ne]; omega
        have HN := Lib.hid (show ∀ k (h : k < q.l.length), k < j + 1 → q.l[k].1 ≠ id from fun k hk hkj => by
          by_cases c : k < j
          · exact hne.out k hk c
          · obtain rfl : k = j := by omega
            exact he)
        generalize q.l[j].1 = y at *
        generalize q.l[j].2 = z at *
        clear he hne
        go_wp2_with fail
        go_roundw
        case rel => exact ⟨j + 1, by omega, by go_num, by first | rfl | trivial, HN⟩
        case measure => simp [intOf]; omega
    · have b1 : ¬ (j : Int) < (q.l.length : Int) := by omega
      obtain rfl := HP2.out (fun k hk => hne.out k hk (by omega))
      go_wp2_with fail
      go_ret
      exact ⟨rfl, rfl⟩
set_option maxHeartbeats 1000000 in
theorem qadd_any (h : QW w B qb q F) (ho : q.ok) (hn : q.l.length ≤ 1000000) (id : Nat) (hi : id < 18446744073709551616) : Calls Try.prog 53 #[.pointer (some ⟨qb, 0, none⟩), .int .u64 id] w fun e w' => e = .returned (.tuple #[]) ∧ LeftQ w B qb F (q.add id) w' := by
  obtain ⟨A, c, h1, rfl⟩ := h
  have c1 := h1.c1
  obtain ⟨d, _, hs⟩ := h1.row.shows
  have HQ := Lib.hid h1
  have hBw : B ≤ w.heap.size := by have := h1.hB; have := h1.lt; omega
  have hnil : OwnG (pairC .u64) 68 w w.heap.size (.slice none 0 0) [] := OwnG.nil_ _ _ _ _
  clear h1
  go_enter Try.func53, Try.ntmps53
  go_upto_region 2 with (at_builtin; refine wpList_appendG (pairC .u64) _ rfl (.tmp 5) (.tmp 9) 27 rfl w.heap.size 68 _ 16 Try.underlying27 infoMs rfl (.slice none 0 0) [] rfl hnil d _ q.l rfl hs (by simp; omega) (by simp; omega) (by omega) ?_; intro v1 w1 ho1 hg1)
  obtain ⟨A1, c1', hv1, _, _⟩ := ho1.form
  rw [List.nil_append] at ho1 hv1
  subst hv1
  have hQ1 : QI w1 B qb A c q := HQ.out.keep fun k hk => hg1.block k (HQ.out.foot k hk).2 (by simp [Value.ownBlock])
  have k1 := hQ1.c1
  have f1 := hQ1.fr 1
  have hb2 : Below w1.heap.size w1 (w1.alloc (Obj.cells #[.int .u64 id, .int .u64 0] 68)) := (Below.refl _ _).alloc (Nat.le_refl _) _
  have hm : ShowsG (pairC .u64) (w1.alloc (Obj.cells #[.int .u64 id, .int .u64 0] 68)) w1.heap.size (.slice (some ⟨w1.heap.size, 0, none⟩) 1 1) [(id, 0)] := ShowsG.lit (C := pairC .u64) [(id, 0)] (by simp [Code.all, pairC]) (by simp [maxLen])
  have ho2 := ho1.alloc_ (Obj.cells #[.int .u64 id, .int .u64 0] 68)
  have hz1 := hg1.size
  have hz2 := hb2.size
  have HO1 := Lib.hid ho1
  have HG1 := Lib.hid hg1
  have HB2 := Lib.hid hb2
  have HQ1 := Lib.hid hQ1
  clear hQ1 hg1 ho1 hb2
  go_upto_region 3 with (at_builtin
                         refine wpList_appendG (pairC .u64) _ rfl (.tmp 12) (.tmp 15) 27 rfl w.heap.size 68 _ 16 Try.underlying27 infoMs rfl _ q.l rfl ho2 w1.heap.size _ [(id, 0)] rfl hm (by simp; omega) (by simp; omega) (by omega) ?_
                         intro v3 w3 ho3 hg3
                         obtain ⟨A3, c3, hv3, _, _⟩ := ho3.form
                         obtain ⟨n1, hn1⟩ : ∃ n, n = (q.l ++ [(id, 0)]).length := ⟨_, rfl⟩
                         rw [← hn1] at hv3
                         have HN1 := Lib.hid hn1
                         clear hn1
                         subst hv3
                         have hQ3 : QI w3 B qb A c q := HQ.out.keep fun k hk => by
                           have hkl := (HQ.out.foot k hk).2
                           exact (hg3.block k (by omega) (fun e => by have := (ho2.block k e.symm).1; omega)).trans ((HB2.out.block k (by omega)).trans (HG1.out.block k hkl (by simp [Value.ownBlock])))
                         have c9 := hQ3.c1
                         have f9 := hQ3.fr 1
                         clear k1 f1)
  have hqb := HQ.out.lt
  have hB := HQ.out.hB
  have hnew : ∀ g, (Value.slice A3 n1 c3).ownBlock = some g → w.heap.size ≤ g := fun g hg => (ho3.block g hg).1
  have hm3 : MovedQ (FQ qb A q.l.length c) w w3 := by
    refine ⟨hg3.os.trans (HB2.out.os.trans HG1.out.os), hg3.tape.trans (HB2.out.tape.trans HG1.out.tape), hg3.output.trans (HB2.out.output.trans HG1.out.output), by have := hg3.size; omega, fun k hk _ => ?_⟩
    exact (hg3.block k (by omega) (fun e => by have := (ho2.block k e.symm).1; omega)).trans ((HB2.out.block k (by omega)).trans (HG1.out.block k hk (by simp [Value.ownBlock])))
  have hbx := hQ3.box
  have hb4 : (w3.setCell ⟨qb, 1, none⟩ (.slice A3 n1 c3)).heap[qb]? = some (.cells #[.int .u64 q.lim, .slice A3 n1 c3, .int .i64 q.kept, .int .u64 q.last] 29 (0, 0)) := heap_setCell_same w3 qb 1 _ 29 _ hbx
  have f3 := frozen_of_row _ qb 3 _ 29 hb4
  have c3' := cell_of_row _ qb 3 _ 29 (0, 0) hb4
  have hb5 := heap_setCell_same _ qb 3 _ 29 (.int .u64 id) hb4
  have hne : ∀ g, (Value.slice A3 n1 c3).ownBlock = some g → g ≠ qb := fun g hg => by have := hnew g hg; omega
  have hrow : OwnG (pairC .u64) 68 ((w3.setCell ⟨qb, 1, none⟩ (.slice A3 n1 c3)).setCell ⟨qb, 3, none⟩ (.int .u64 id)) B (.slice A3 n1 c3) (q.l ++ [(id, 0)]) :=
    (ho3.mono (by omega : B ≤ w.heap.size)).keep fun g hg => (Below.heap_setCell _ _ _ _ (by show g ≠ qb; exact hne g hg)).trans (Below.heap_setCell _ _ _ _ (by show g ≠ qb; exact hne g hg))
  have he : (q.add id).l.length = n1 := HN1.out.symm
  have HQF : QI ((w3.setCell ⟨qb, 1, none⟩ (.slice A3 n1 c3)).setCell ⟨qb, 3, none⟩ (.int .u64 id)) B qb A3 c3 (q.add id) := ⟨by rw [he]; exact hb5, by rw [he]; exact hrow, by rw [he]; exact hne, hB⟩
  have HFIN : LeftQ w B qb (FQ qb A q.l.length c) (q.add id) ((w3.setCell ⟨qb, 1, none⟩ (.slice A3 n1 c3)).setCell ⟨qb, 3, none⟩ (.int .u64 id)) :=
    ⟨_, ⟨A3, c3, HQF, rfl⟩, fun k hk => by
      unfold FQ at hk
      rw [he] at hk
      rcases hk with rfl | hk
      · exact .inl (.inl rfl)
      · exact .inr (hnew k hk), (hm3.setCell (fun _ => .inl rfl) _ _).setCell (fun _ => .inl rfl) _ _⟩
  have HFIN := Lib.hid HFIN
  clear he HQF hrow hb5 hb4 hbx hm3 hQ3 ho2 hg3 ho3 hnew hne
  go_wp2_with fail
  first | go_end0 | refine bodyPost_ret (results_none rfl _ _ _) rfl ?_
  exact ⟨rfl, HFIN.out⟩
end

end Go.Proofs.Ytkcbkimconaegaa
