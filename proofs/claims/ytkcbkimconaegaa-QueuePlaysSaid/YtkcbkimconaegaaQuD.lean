/-
  The document's All, Of, Purge and Same of queues.
  Conditions: none but sizes.
-/
import Derived.Test.YtkcbkimconaegaaQuC
namespace Go.Proofs.Ytkcbkimconaegaa
open Go.RowKit
set_option linter.unusedVariables false
set_option linter.unusedSimpArgs false
set_option maxRecDepth 100000

/-- A row of numbers that was told. -/
def NumsQ (w : World) (l : List Nat) (e : Ending) (w' : World) : Prop := ∃ v, e = .returned v ∧ OwnG (natC .u64) 22 w' w.heap.size v l ∧ Below w.heap.size w w'
section
variable {w w' : World} {B qb : Nat} {F : Nat → Prop} {q : QP}
set_option maxHeartbeats 1000000 in
theorem qall_any (h : QW w B qb q F) (hn : q.l.length ≤ 1000000) : Calls Try.prog 38 #[.pointer (some ⟨qb, 0, none⟩)] w (NumsQ w (allQ q.l)) := by
  obtain ⟨A, c, h1, hF⟩ := h
  have HQ := Lib.hid (fun w' (hb : Below w.heap.size w w') => h1.below hb)
  have c1 := h1.c1
  have HT := Lib.hid (allQ_take q.l)
  have HL := Lib.hid (fun j (hj : j ≤ q.l.length) => (show (allQ (q.l.take j)).length = j from by simp [allQ]; omega))
  have h0 : allQ (q.l.take 0) = [] := by simp [allQ]
  have hlast : allQ (q.l.take q.l.length) = allQ q.l := by rw [List.take_length]
  unfold NumsQ
  rw [← hlast]
  clear h1 hF hlast
  go_enter Try.func38, Try.ntmps38
  go_wp2_with fail
  go_loopw [3, 4] (fun lv iv wr => ∃ j : Nat, j ≤ q.l.length ∧ iv = .int .i64 j ∧ OwnG (natC .u64) 22 wr w.heap.size lv (allQ (q.l.take j)) ∧ Below w.heap.size w wr) (fun _ iv _ => q.l.length - (intOf iv).toNat)
  case atStart => exact ⟨0, by omega, rfl, by rw [h0]; exact OwnG.nil_ _ _ _ _, Below.refl _ _⟩
  case round =>
    clear c1 h0
    obtain ⟨j, hj, rfl, ho, hb⟩ := hrel
    rename World => wr
    have c1 := (HQ.out wr hb).c1
    have hsz := hb.size
    by_cases hlt : j < q.l.length
    · obtain ⟨b, rfl, hbq, k0, k1, kf⟩ := (HQ.out wr hb).at_ hlt
      have b1 : (j : Int) < (q.l.length : Int) := by omega
      have b3 : IntKind.i64.wrap ((j : Int) + 1) = (j : Int) + 1 := i64_id _ (by omega) (by omega)
      have hT := HT.out j hlt
      have hL := HL.out j hj
      have HTJ := Lib.hid hT
      have hm : ShowsG (natC .u64) (wr.alloc (Obj.cells #[.int .u64 (q.l[j].1 : Nat)] 22)) wr.heap.size (.slice (some ⟨wr.heap.size, 0, none⟩) 1 1) [q.l[j].1] := ShowsG.lit (C := natC .u64) [q.l[j].1] (by simp [Code.all, natC]) (by simp [maxLen])
      have ho2 := ho.alloc_ (Obj.cells #[.int .u64 (q.l[j].1 : Nat)] 22)
      have hb2 : Below w.heap.size w (wr.alloc (Obj.cells #[.int .u64 (q.l[j].1 : Nat)] 22)) := hb.alloc hsz _
      have HB2 := Lib.hid hb2
      have hz2 := hb2.size
      clear hT ho hb hb2 kf hbq
      generalize allQ (q.l.take j) = L0 at *
      go_wp2_with (at_builtin
                   refine wpList_appendG (natC .u64) _ rfl (.tmp 14) (.tmp 23) 42 rfl w.heap.size 22 _ 8 Try.underlying42 infoU64 rfl _ L0 rfl ho2 wr.heap.size _ [q.l[j].1] rfl hm (by simp; omega) (by simp; omega) (by omega) ?_
                   intro v3 w3 ho3 hg3)
      have hb3 : Below w.heap.size w w3 := HB2.out.grown hg3 hz2 (fun k hk => (ho2.block k hk).1)
      go_roundw
      case rel => exact ⟨j + 1, by omega, by go_num, by rw [HTJ.out]; exact ho3, hb3⟩
      case measure => simp [intOf]; omega
    · have b1 : ¬ (j : Int) < (q.l.length : Int) := by omega
      obtain rfl : j = q.l.length := by omega
      rw [List.take_length] at ho
      go_wp2_with fail
      go_ret
      exact ⟨_, rfl, ho, hb⟩
set_option maxHeartbeats 1000000 in
theorem qof_any (h : QW w B qb q F) (hn : q.l.length ≤ 1000000) (ow : Nat) : Calls Try.prog 39 #[.pointer (some ⟨qb, 0, none⟩), .int .u64 ow] w (NumsQ w (ofQ ow q.l)) := by
  obtain ⟨A, c, h1, hF⟩ := h
  have HQ := Lib.hid (fun w' (hb : Below w.heap.size w w') => h1.below hb)
  have c1 := h1.c1
  have HT := Lib.hid (ofQ_take ow q.l)
  have HL := Lib.hid (fun j (hj : j ≤ q.l.length) => (show (ofQ ow (q.l.take j)).length ≤ j from by have := ofQ_len ow (q.l.take j); rw [List.length_take] at this; omega))
  have h0 : ofQ ow (q.l.take 0) = [] := by simp [ofQ]
  have hlast : ofQ ow (q.l.take q.l.length) = ofQ ow q.l := by rw [List.take_length]
  unfold NumsQ
  rw [← hlast]
  clear h1 hF hlast
  go_enter Try.func39, Try.ntmps39
  go_wp2_with fail
  go_loopw [5, 6] (fun lv iv wr => ∃ j : Nat, j ≤ q.l.length ∧ iv = .int .i64 j ∧ OwnG (natC .u64) 22 wr w.heap.size lv (ofQ ow (q.l.take j)) ∧ Below w.heap.size w wr) (fun _ iv _ => q.l.length - (intOf iv).toNat)
  case atStart => exact ⟨0, by omega, rfl, by rw [h0]; exact OwnG.nil_ _ _ _ _, Below.refl _ _⟩
  case round =>
    clear c1 h0
    obtain ⟨j, hj, rfl, ho, hb⟩ := hrel
    rename World => wr
    have c1 := (HQ.out wr hb).c1
    have hsz := hb.size
    by_cases hlt : j < q.l.length
    · obtain ⟨b, rfl, hbq, k0, k1, kf⟩ := (HQ.out wr hb).at_ hlt
      have b1 : (j : Int) < (q.l.length : Int) := by omega
      have b3 : IntKind.i64.wrap ((j : Int) + 1) = (j : Int) + 1 := i64_id _ (by omega) (by omega)
      have hT := HT.out j hlt
      have hL := HL.out j hj
      by_cases he : q.l[j].2 = ow
      · rw [if_pos he] at hT
        rw [he] at k1
        have HTJ := Lib.hid hT
        have hm : ShowsG (natC .u64) (wr.alloc (Obj.cells #[.int .u64 (q.l[j].1 : Nat)] 22)) wr.heap.size (.slice (some ⟨wr.heap.size, 0, none⟩) 1 1) [q.l[j].1] := ShowsG.lit (C := natC .u64) [q.l[j].1] (by simp [Code.all, natC]) (by simp [maxLen])
        have ho2 := ho.alloc_ (Obj.cells #[.int .u64 (q.l[j].1 : Nat)] 22)
        have hb2 : Below w.heap.size w (wr.alloc (Obj.cells #[.int .u64 (q.l[j].1 : Nat)] 22)) := hb.alloc hsz _
        have HB2 := Lib.hid hb2
        have hz2 := hb2.size
        clear hT ho hb hb2 kf hbq he
        generalize ofQ ow (q.l.take j) = L0 at *
        go_wp2_with (at_builtin
                     refine wpList_appendG (natC .u64) _ rfl (.tmp 26) (.tmp 35) 42 rfl w.heap.size 22 _ 8 Try.underlying42 infoU64 rfl _ L0 rfl ho2 wr.heap.size _ [q.l[j].1] rfl hm (by simp; omega) (by simp; omega) (by omega) ?_
                     intro v3 w3 ho3 hg3)
        have hb3 : Below w.heap.size w w3 := HB2.out.grown hg3 hz2 (fun k hk => (ho2.block k hk).1)
        go_roundw
        case rel => exact ⟨j + 1, by omega, by go_num, by rw [HTJ.out]; exact ho3, hb3⟩
        case measure => simp [intOf]; omega
      · rw [if_neg he] at hT
        have HTJ := Lib.hid hT
        have ht : ((q.l[j].2 : Int) == (ow : Int)) = false := by rw [beq_eq_false_iff_ne]; omega
        generalize q.l[j].2 = z at *
        clear hT he kf hbq
        go_wp2_with fail
        go_roundw
        case rel => exact ⟨j + 1, by omega, by go_num, by rw [HTJ.out]; exact ho, hb⟩
        case measure => simp [intOf]; omega
    · have b1 : ¬ (j : Int) < (q.l.length : Int) := by omega
      obtain rfl : j = q.l.length := by omega
      rw [List.take_length] at ho
      go_wp2_with fail
      go_ret
      exact ⟨_, rfl, ho, hb⟩
set_option maxHeartbeats 1000000 in
theorem qsameN_any (A1 A2 : Option Addr) (c1 c2 d1 d2 : Nat) (l m : List Nat) (w : World) (h1 : ShowsG (natC .u64) w d1 (.slice A1 l.length c1) l) (h2 : ShowsG (natC .u64) w d2 (.slice A2 m.length c2) m) (hl : l.length ≤ 1000000) (hm : m.length ≤ 1000000) :
    Calls Try.prog 18 #[.slice A1 l.length c1, .slice A2 m.length c2] w fun e w' => e = .returned (.bool (decide (l = m))) ∧ Below w.heap.size w w' := by
  by_cases hlen : l.length = m.length
  case neg =>
    have t : ((l.length : Int) != (m.length : Int)) = true := by rw [bne_iff_ne]; omega
    have e : decide (l = m) = false := by simp; rintro rfl; exact hlen rfl
    rw [e]
    clear e
    go_enter Try.func18, Try.ntmps18
    go_wp2_with fail
    go_ret
    exact ⟨rfl, Below.refl _ _⟩
  have t : ((l.length : Int) != (m.length : Int)) = false := by simp; omega
  have HD := Lib.hid (fun (hall : ∀ j (h : j < l.length), l[j] = m[j]'(by omega)) => (show decide (l = m) = true from by simp; exact List.ext_getElem hlen (fun j a b => hall j a)))
  have HE := Lib.hid (fun j (h : j < l.length) (hne : l[j] ≠ m[j]'(by omega)) => (show decide (l = m) = false from by simp; rintro rfl; exact hne rfl))
  generalize decide (l = m) = R at *
  have HS1 := Lib.hid (fun w' (hb : Below w.heap.size w w') => h1.below' hb (Nat.le_refl _))
  have HS2 := Lib.hid (fun w' (hb : Below w.heap.size w w') => h2.below' hb (Nat.le_refl _))
  clear h1 h2
  go_enter Try.func18, Try.ntmps18
  go_wp2_with fail
  go_loopw [5] (fun iv wr => ∃ j : Nat, j ≤ l.length ∧ iv = .int .i64 j ∧ Hid (∀ k (h : k < l.length), k < j → l[k] = m[k]'(by omega)) ∧ Below w.heap.size w wr) (fun iv _ => l.length - (intOf iv).toNat)
  case atStart => exact ⟨0, by omega, rfl, Lib.hid fun k _ h => absurd h (by omega), Below.refl _ _⟩
  case round =>
    obtain ⟨j, hj, rfl, hall, hb⟩ := hrel
    rename World => wr
    have hsz := hb.size
    by_cases hlt : j < l.length
    · have hlt2 : j < m.length := by omega
      obtain ⟨o1, rfl, _, hc1⟩ := (HS1.out wr hb).at_ (by omega)
      obtain ⟨o2, rfl, _, hc2⟩ := (HS2.out wr hb).at_ (by omega)
      have x1 : wr.cell? ⟨d1, o1 + j, none⟩ = some (.int .u64 (l[j] : Nat)) := by have := hc1 j hlt 0 (by decide); simpa [natC] using this
      have x2 : wr.cell? ⟨d2, o2 + j, none⟩ = some (.int .u64 (m[j] : Nat)) := by have := hc2 j hlt2 0 (by decide); simpa [natC] using this
      have b1 : (j : Int) < (l.length : Int) := by omega
      have b2 : (j : Int) < (m.length : Int) := by omega
      have b3 : IntKind.i64.wrap ((j : Int) + 1) = (j : Int) + 1 := i64_id _ (by omega) (by omega)
      clear hc1 hc2
      by_cases he : l[j] = m[j]
      · have ht : ((l[j] : Int) != (m[j] : Int)) = false := by simp [he]
        have HN := Lib.hid (show ∀ k (h : k < l.length), k < j + 1 → l[k] = m[k]'(by omega) from fun k hk hkj => by
          by_cases c : k < j
          · exact hall.out k hk c
          · obtain rfl : k = j := by omega
            exact he)
        generalize l[j] = y at *
        generalize m[j] = z at *
        clear he hall
        go_wp2_with fail
        go_quiet (fail)
        go_wp2_with fail
        go_roundw
        case rel => exact ⟨j + 1, by omega, by go_num, HN, below_drewN hb _⟩
        case measure => simp [intOf]; omega
      · have ht : ((l[j] : Int) != (m[j] : Int)) = true := by rw [bne_iff_ne]; omega
        obtain rfl := HE.out j hlt he
        generalize l[j] = y at *
        generalize m[j] = z at *
        clear he hall
        go_wp2_with fail
        go_quiet (fail)
        go_wp2_with fail
        go_ret
        exact ⟨rfl, below_drewN hb _⟩
    · have b1 : ¬ (j : Int) < (l.length : Int) := by omega
      obtain rfl := HD.out (fun k hk => hall.out k hk (by omega))
      go_wp2_with fail
      go_ret
      exact ⟨rfl, hb⟩
end

end Go.Proofs.Ytkcbkimconaegaa
