/-
  The contracts of the program's edge, of the methods of sides, and of combined.
  Conditions: the numbers are of 32 bits; at most 2^36 spans; canonical lists.
-/
import Derived.Test.YtpchjgeehejkeaaSpA
namespace Go.Proofs.Ytpchjgeehejkeaa
open Go.RowKit
set_option linter.unusedVariables false
set_option linter.unusedSimpArgs false

set_option maxRecDepth 100000 in
set_option maxHeartbeats 800000 in
theorem edge_any (A : Option Addr) (c n d i : Nat) (l : List Sp) (w : World) (hn : l.length = n) (hl : ShowsG spanC w d (.slice A n c) l) (hu : u32s l) (hb : n ≤ 17592186044416) (hi : i ≤ 2 * n) :
    Calls Try.prog 58 #[.slice A n c, .int .i64 i] w fun e w' => e = .returned (.int .u64 (edgeN l i : Nat)) ∧ Below w.heap.size w w' := by
  subst hn
  by_cases hlt : i / 2 < l.length
  · obtain ⟨o, rfl, _, hcl⟩ := hl.at_ (by omega)
    have c1 := span_cell1 hcl hlt
    have c2 := span_cell2 hcl hlt
    have hlt' := hl.lt (by omega)
    obtain ⟨b1, b2⟩ := u32s_get hu hlt
    have hge : ¬ ((l.length : Int) ≤ (i : Int) / 2) := by omega
    have hlI : (i : Int) / 2 < (l.length : Int) := by omega
    by_cases hp : i % 2 = 0
    · have hfin : edgeN l i = l[i / 2].1 := by unfold edgeN; rw [dif_pos hlt, if_pos hp]
      have HF := Lib.hid hfin
      have hpI : ((i : Int) % 2 == 0) = true := by simp; omega
      have hpI2 : (i : Int) % 2 = 0 := by omega
      generalize l[i / 2].1 = a at *
      generalize l[i / 2].2 = b at *
      clear hcl hl hu hfin
      go_enter Try.func58, Try.ntmps58
      go_wp2_with fail
      go_ret
      exact ⟨by rw [HF.out]; rfl, (Below.refl _ _).alloc (Nat.le_refl _) _⟩
    · have hfin : edgeN l i = l[i / 2].2 + 1 := by unfold edgeN; rw [dif_pos hlt, if_neg hp]
      have HF := Lib.hid hfin
      have hpI : ((i : Int) % 2 == 0) = false := by simp; omega
      generalize l[i / 2].1 = a at *
      generalize l[i / 2].2 = b at *
      clear hcl hl hu hfin
      go_enter Try.func58, Try.ntmps58
      go_wp2_with fail
      go_ret
      exact ⟨by rw [HF.out]; rfl, (Below.refl _ _).alloc (Nat.le_refl _) _⟩
  · have hfin : edgeN l i = 1099511627776 := by unfold edgeN; rw [dif_neg hlt]
    have HF := Lib.hid hfin
    have hge : (l.length : Int) ≤ (i : Int) / 2 := by omega
    clear hl hu hfin
    go_enter Try.func58, Try.ntmps58
    go_wp2_with fail
    go_ret
    exact ⟨by rw [HF.out]; rfl, Below.refl _ _⟩

end Go.Proofs.Ytpchjgeehejkeaa
