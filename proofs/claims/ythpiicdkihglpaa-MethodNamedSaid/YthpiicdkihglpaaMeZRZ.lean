/-
  The contract of the reference's Named.
  Conditions: none.
-/
import Derived.Test.YthpiicdkihglpaaMeYZ
import Derived.Test.YthpiicdkihglpaaMeXTZ
import Derived.Test.YthpiicdkihglpaaMeZZ
namespace Go.Proofs.Ythpiicdkihglpaa
open Go.RowKit
set_option linter.unusedVariables false
set_option linter.unusedSimpArgs false

set_option maxRecDepth 100000 in
set_option maxHeartbeats 4000000 in
theorem rnamed_any (s : ByteArray) (w : World) : Calls Try.prog 29 #[.string s] w fun e w' => e = .returned (.tuple #[rowV ((nmD s).getD row0), .bool (nmD s).isSome]) ∧ Below w.heap.size w w' := by
  have HT := Lib.hid table_any
  obtain ⟨O, hO⟩ : ∃ O, O = tabD.find? (fun r => r.name == s) := ⟨_, rfl⟩
  have hn : nmD s = O := hO.symm
  rw [hn]
  have hlen := tab_len
  clear hn
  generalize tabD = L at *
  have HO := Lib.hid hO
  have HLEN := Lib.hid hlen
  clear hO hlen
  have hx := heap_alloc_new w (Obj.cells #[.int .u8 0, .int .u8 0, .string ⟨#[]⟩, .string ⟨#[]⟩] 65)
  have hx : BoxW (w.alloc (Obj.cells #[.int .u8 0, .int .u8 0, .string ⟨#[]⟩, .string ⟨#[]⟩] 65)) w.heap.size row0 := hx
  have hb := below_box w (Obj.cells #[.int .u8 0, .int .u8 0, .string ⟨#[]⟩, .string ⟨#[]⟩] 65)
  go_enter Try.func29, Try.ntmps29
  go_upto_region 1 with fail
  generalize w.alloc (Obj.cells #[.int .u8 0, .int .u8 0, .string ⟨#[]⟩, .string ⟨#[]⟩] 65) = W at *
  go_wp2_with fail
  with_reducible refine (HT.out W).mono ?_
  rintro e w1 ⟨v, rfl, ho, hb1⟩
  obtain ⟨g, hg0, hsh⟩ := ho.shows
  obtain ⟨A, c, rfl, _, _⟩ := hsh.form
  have hx1 := hx.kept hb1 (Nat.le_refl _)
  have hB1 : Below w.heap.size w w1 := hb.trans (hb1.mono hb.size)
  obtain ⟨c0, c1, c2, c3⟩ := hx1.cells
  have f0 := hx1.fr 0
  have f1 := hx1.fr 1
  have f2 := hx1.fr 2
  have f3 := hx1.fr 3
  have HX := Lib.hid (And.intro hx1 hB1)
  have HSH := Lib.hid hsh
  clear ho hb1 hx hb hsh hx1 hB1 HT
  go_wp2_with fail
  go_loopw [5] (fun i wr => ∃ j : Nat, j ≤ L.length ∧ i = .int .i64 j ∧ wr = w1 ∧ Hid (∀ q (h' : q < L.length), q < j → (L[q].name == s) = false)) (fun i _ => L.length - (intOf i).toNat)
  case atStart => exact ⟨0, by omega, rfl, rfl, Lib.hid fun q _ h => absurd h (by omega)⟩
  case round =>
    obtain ⟨j, hj, rfl, rfl, hlo⟩ := hrel
    rename World => w1
    by_cases hlt : j < L.length
    · have hjl : (j : Int) < (L.length : Int) := by omega
      have hj9 : j < 1000 := by have := HLEN.out; omega
      obtain ⟨o, rfl, hd, hcl⟩ := HSH.out.at_ (by omega)
      obtain ⟨e0, e1, e2, e3⟩ := row_cell hcl hlt
      have hyes : (L[j].name == s) = true → O = some L[j] := fun h => HO.out.trans (rfirst hlt hlo.out h)
      have hnext : (L[j].name == s) = false → ∀ q (h' : q < L.length), q < j + 1 → (L[q].name == s) = false := fun h q hq hqj => by
        by_cases h2 : q < j
        · exact hlo.out q hq h2
        · obtain rfl : q = j := by omega
          exact h
      have HY := Lib.hid hyes
      have HN := Lib.hid hnext
      clear hcl hyes hnext
      generalize L[j] = row at *
      obtain ⟨rc, ro, rn, rk⟩ := row
      simp only [] at *
      have hA : (rn.toList == s.toList) = (rn == s) := (beq_toListBytes rn s).symm
      cases hab : (rn == s) with
      | true =>
        rw [hab] at hA
        obtain rfl := HY.out hab
        clear HN HY hab
        go_wp2_with fail
        refine bodyPost_ret (results_row_tmp rfl _ _ w.heap.size 65 _ (0, 0) _ rfl (set4_rowW HX.out.1) Try.underlying65 rfl (by kernel_rfl)) rfl ?_
        exact ⟨rfl, set4_belowW HX.out.2 (Nat.le_refl _)⟩
      | false =>
        rw [hab] at hA
        have HN2 := Lib.hid (HN.out hab)
        clear HN HY hab
        go_wp2_with fail
        go_roundw
        case rel => exact ⟨j + 1, by omega, by go_num, by first | trivial | rfl, HN2⟩
        case measure => simp [intOf]; omega
    · have hjl : ¬ (j : Int) < (L.length : Int) := by omega
      have hfin := HO.out.trans (rnone fun q hq => hlo.out q hq (by omega))
      subst hfin
      clear hlo
      go_wp2_with fail
      refine bodyPost_ret (results_row_tmp rfl _ _ w.heap.size 65 _ (0, 0) _ rfl (set4_rowW HX.out.1) Try.underlying65 rfl (by kernel_rfl)) rfl ?_
      exact ⟨rfl, set4_belowW HX.out.2 (Nat.le_refl _)⟩

end Go.Proofs.Ythpiicdkihglpaa
