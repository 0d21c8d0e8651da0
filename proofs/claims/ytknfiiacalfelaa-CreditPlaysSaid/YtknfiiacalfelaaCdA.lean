/-
  The document's Find, in, Stop and Give.
  Conditions: none but sizes.
-/
import Derived.Test.YtknfiiacalfelaaCdM
import Derived.Test.YtknfiiacalfelaaClF
namespace Go.Proofs.Ytknfiiacalfelaa
open Go.RowKit Go.Shelf
set_option linter.unusedVariables false
set_option linter.unusedSimpArgs false
set_option maxRecDepth 100000

def placeT (r : Option Nat) : Int := match r with | none => -1 | some i => (i : Int)
section
variable {w w' : World} {B qb : Nat} {q : CP}
set_option maxHeartbeats 1000000 in
theorem dfind_any (h : DW w B qb q) (hn : q.l.length ≤ 1000000) (t : Tg) : Calls Try.prog 21 #[.pointer (some ⟨qb, 0, none⟩), .string (str8 t)] w fun e w' => e = .returned (.int .i64 (placeT (idxA t q.l))) ∧ w = w' := by
  obtain ⟨A, c, h1⟩ := h
  have HQ := Lib.hid h1
  have c1 := h1.c0
  have HP1 := Lib.hid (fun (i : Nat) (hi : i < q.l.length) (h : q.l[i].1 = t) (hb : ∀ j (h : j < q.l.length), j < i → q.l[j].1 ≠ t) => idxA_at hi h hb)
  have HP2 := Lib.hid (fun (hb : ∀ j (h : j < q.l.length), q.l[j].1 ≠ t) => idxA_all hb)
  generalize idxA t q.l = R at *
  clear h1
  go_enter Try.func21, Try.ntmps21
  go_wp2_with fail
  go_loopw [5] (fun iv wr => ∃ j : Nat, j ≤ q.l.length ∧ iv = .int .i64 j ∧ w = wr ∧ Hid (∀ k (h : k < q.l.length), k < j → q.l[k].1 ≠ t)) (fun iv _ => q.l.length - (intOf iv).toNat)
  case atStart => exact ⟨0, by omega, rfl, rfl, Lib.hid fun k _ h => absurd h (by omega)⟩
  case round =>
    obtain ⟨j, hj, rfl, rfl, hne⟩ := hrel
    by_cases hlt : j < q.l.length
    · obtain ⟨b, rfl, _, k0, k1, _⟩ := HQ.out.at_ hlt
      have b1 : (j : Int) < (q.l.length : Int) := by omega
      have b3 : IntKind.i64.wrap ((j : Int) + 1) = (j : Int) + 1 := i64_id _ (by omega) (by omega)
      by_cases he : q.l[j].1 = t
      · obtain rfl := HP1.out j hlt he (hne.out)
        have ht : ((str8 q.l[j].1).toList == (str8 t).toList) = true := by rw [he]; simp
        generalize q.l[j].1 = y at *
        generalize q.l[j].2 = z at *
        clear he
        go_wp2_with fail
        go_ret
        exact ⟨rfl, rfl⟩
      · have ht : ((str8 q.l[j].1).toList == (str8 t).toList) = false := str8_ne he
        have HN := Lib.hid (show ∀ k (h : k < q.l.length), k < j + 1 → q.l[k].1 ≠ t from fun k hk hkj => by
          by_cases c : k < j
          · exact hne.out k hk c
          · obtain rfl : k = j := by omega
            exact he)
        generalize q.l[j].1 = y at *
        generalize q.l[j].2 = z at *
        clear he hne
        go_wp2_with fail
        go_roundw
        case rel => exact ⟨j + 1, by omega, by go_num, by first | rfl | trivial, HN⟩
        case measure => simp [intOf]; omega
    · have b1 : ¬ (j : Int) < (q.l.length : Int) := by omega
      obtain rfl := HP2.out (fun k hk => hne.out k hk (by omega))
      go_wp2_with fail
      go_ret
      exact ⟨rfl, rfl⟩
set_option maxHeartbeats 1000000 in
theorem din_any (may : List Tg) (A : Option Addr) (c d : Nat) (t : Tg) (h : ShowsG strC w d (.slice A may.length c) may) (hn : may.length ≤ 1000000) : Calls Try.prog 33 #[.slice A may.length c, .string (str8 t)] w fun e w' => e = .returned (.bool (decide (t ∈ may))) ∧ w = w' := by
  have HQ := Lib.hid h
  have HP1 := Lib.hid (fun (i : Nat) (hi : i < may.length) (h : may[i] = t) => (decide_eq_true (by rw [← h]; exact List.getElem_mem hi) : decide (t ∈ may) = true))
  have HP2 := Lib.hid (fun (hb : ∀ j (h : j < may.length), may[j] ≠ t) => (decide_eq_false (fun hm => by obtain ⟨j, hj, e⟩ := List.getElem_of_mem hm; exact hb j hj e) : decide (t ∈ may) = false))
  generalize decide (t ∈ may) = R at *
  clear h
  go_enter Try.func33, Try.ntmps33
  go_wp2_with fail
  go_loopw [5] (fun iv wr => ∃ j : Nat, j ≤ may.length ∧ iv = .int .i64 j ∧ w = wr ∧ Hid (∀ k (h : k < may.length), k < j → may[k] ≠ t)) (fun iv _ => may.length - (intOf iv).toNat)
  case atStart => exact ⟨0, by omega, rfl, rfl, Lib.hid fun k _ h => absurd h (by omega)⟩
  case round =>
    obtain ⟨j, hj, rfl, rfl, hne⟩ := hrel
    by_cases hlt : j < may.length
    · obtain ⟨o, rfl, _, hc⟩ := HQ.out.at_ (by omega)
      have k0 : w.cell? ⟨d, o + j, none⟩ = some (.string (str8 may[j])) := by simpa [strC] using hc j hlt 0 (by decide)
      have b1 : (j : Int) < (may.length : Int) := by omega
      have b3 : IntKind.i64.wrap ((j : Int) + 1) = (j : Int) + 1 := i64_id _ (by omega) (by omega)
      clear hc
      by_cases he : may[j] = t
      · obtain rfl := HP1.out j hlt he
        have ht : ((str8 may[j]).toList == (str8 t).toList) = true := by rw [he]; simp
        generalize may[j] = y at *
        clear he
        go_wp2_with fail
        go_ret
        exact ⟨rfl, rfl⟩
      · have ht : ((str8 may[j]).toList == (str8 t).toList) = false := str8_ne he
        have HN := Lib.hid (show ∀ k (h : k < may.length), k < j + 1 → may[k] ≠ t from fun k hk hkj => by
          by_cases c : k < j
          · exact hne.out k hk c
          · obtain rfl : k = j := by omega
            exact he)
        generalize may[j] = y at *
        clear he hne
        go_wp2_with fail
        go_roundw
        case rel => exact ⟨j + 1, by omega, by go_num, by first | rfl | trivial, HN⟩
        case measure => simp [intOf]; omega
    · have b1 : ¬ (j : Int) < (may.length : Int) := by omega
      obtain rfl := HP2.out (fun k hk => hne.out k hk (by omega))
      go_wp2_with fail
      go_ret
      exact ⟨rfl, rfl⟩
/-- What the calls want of a tag that is there. -/
theorem chg_some {t : Tg} {f : Nat → Nat} {i : Nat} (h : FoundA t q.l i) (hs : (getA t q.l).isSome = true) : q.chg t f = (0, { q with l := q.l.set i (t, f (q.l[i]'h.lt).2) }) := by
  unfold CP.chg
  rw [if_pos hs, h.upd h.lt f]
theorem chg_none {t : Tg} {f : Nat → Nat} (hs : ¬ (getA t q.l).isSome = true) : q.chg t f = (7, q) := if_neg hs
set_option maxHeartbeats 1000000 in
theorem dstop_any (h : DW w B qb q) (ho : q.ok) (hn : q.l.length ≤ 1000000) (t : Tg) : Calls Try.prog 14 #[.pointer (some ⟨qb, 0, none⟩), .string (str8 t)] w (AnsD w B qb (q.stop t)) := by
  have HF := Lib.hid (dfind_any h hn t)
  have H0 := Lib.hid (LeftD.same h)
  unfold AnsD CP.stop
  by_cases hs : (getA t q.l).isSome = true
  · obtain ⟨i, hi⟩ := foundA ho.nod hs
    rw [hi.idx] at HF
    rw [chg_some hi hs]
    obtain ⟨A, c, h1⟩ := h
    have c0 := h1.c0
    obtain ⟨b, hA, hne, k0, k1, hf⟩ := h1.at_ hi.lt
    have f1 := hf (i * 2 + 1)
    have HL := Lib.hid (LeftD.cred h1 hi.lt hA t (hi.tag hi.lt) 0)
    have b1 : (i : Int) < (q.l.length : Int) := by have := hi.lt; omega
    subst hA
    clear h1 hf hs ho H0 k0
    go_enter Try.func14, Try.ntmps14
    go_wp2_with fail
    refine HF.out.mono ?_
    rintro e w1 ⟨rfl, rfl⟩
    unfold placeT
    go_wp2_with fail
    go_ret
    exact ⟨rfl, HL.out⟩
  · rw [notA hs] at HF
    rw [chg_none hs]
    clear h hs ho
    go_enter Try.func14, Try.ntmps14
    go_wp2_with fail
    refine HF.out.mono ?_
    rintro e w1 ⟨rfl, rfl⟩
    unfold placeT
    go_wp2_with fail
    go_ret
    exact ⟨rfl, H0.out⟩
set_option maxHeartbeats 2000000 in
theorem dgive_any (h : DW w B qb q) (ho : q.ok) (hn : q.l.length ≤ 1000000) (t : Tg) (n : Nat) (hnn : n ≤ 4294967295) : Calls Try.prog 18 #[.pointer (some ⟨qb, 0, none⟩), .string (str8 t), .int .u32 n] w (AnsD w B qb (q.give t n)) := by
  have HF := Lib.hid (dfind_any h hn t)
  have H0 := Lib.hid (LeftD.same h)
  unfold AnsD CP.give
  by_cases hs : (getA t q.l).isSome = true
  · obtain ⟨i, hi⟩ := foundA ho.nod hs
    rw [hi.idx] at HF
    rw [chg_some hi hs]
    have hcr := ho.cred _ (List.getElem_mem hi.lt)
    obtain ⟨A, c, h1⟩ := h
    have c0 := h1.c0
    obtain ⟨b, hA, hne, k0, k1, hf⟩ := h1.at_ hi.lt
    have f1 := hf (i * 2 + 1)
    obtain ⟨y, hy⟩ : ∃ y, y = (q.l[i]'hi.lt).2 := ⟨_, rfl⟩
    rw [← hy] at k1 hcr ⊢
    obtain ⟨m, hm⟩ : ∃ m, m = min (y + n) 4294967295 := ⟨_, rfl⟩
    have HL := Lib.hid (LeftD.cred h1 hi.lt hA t (hi.tag hi.lt) m)
    have b1 : (i : Int) < (q.l.length : Int) := by have := hi.lt; omega
    have u1 : IntKind.u64.wrap (n : Int) = (n : Int) := by rw [IntKind.wrap_u64]; omega
    have u2 : IntKind.u64.wrap ((y : Int) + (n : Int)) = (y : Int) + (n : Int) := by rw [IntKind.wrap_u64]; omega
    have u3 : (if 4294967295 < (y : Int) + (n : Int) then 4294967295 else (y : Int) + (n : Int)) = (m : Int) := by split <;> omega
    have u4 : min ((y : Int) + (n : Int)) 4294967295 = (m : Int) := by omega
    rw [← hm]
    subst hA
    clear h1 hf hs ho H0 k0 hy hm hcr hnn
    go_enter Try.func18, Try.ntmps18
    go_wp2_with fail
    refine HF.out.mono ?_
    rintro e w1 ⟨rfl, rfl⟩
    unfold placeT
    go_wp2_with fail
    go_region
    go_wp2_with fail
    go_ret
    exact ⟨rfl, HL.out.drew⟩
  · rw [notA hs] at HF
    rw [chg_none hs]
    clear h hs ho
    go_enter Try.func18, Try.ntmps18
    go_wp2_with fail
    refine HF.out.mono ?_
    rintro e w1 ⟨rfl, rfl⟩
    unfold placeT
    go_wp2_with fail
    go_ret
    exact ⟨rfl, H0.out⟩
end

end Go.Proofs.Ytknfiiacalfelaa
