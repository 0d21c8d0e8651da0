/-
  How an argument that is a slice of bytes is opened: it shows a list; its length is within the form's reach.
  Conditions: none.
-/
import Derived.ProofKit
import Derived.OpenShut
import Derived.ShutString
import Derived.ChangeOld
import Derived.SizedLaws
import Derived.Deep.Slices
import Derived.Deep.Fields
import Derived.Test.YtpbdnfonflmncaaGreatRows
import Derived.Test.YtpbdnfonflmncaaGreatPZ
namespace Go.Proofs.YtpbdnfonflmncaaGreat
open Go.ChangeShapes Go.WideShapes Go.ChangeAt Go.RowKit
open Go.ChangeMaps (open_string shut_string)
set_option linter.unusedVariables false
set_option linter.unusedSimpArgs false
theorem addr_plain {w : World} {a : Addr} {v : Value} (h : w.cell? a = some v) : ∃ b o, a = ⟨b, o, none⟩ := by
 obtain ⟨b, o, spot⟩ := a
 have := World.cell?_spot h
 simp at this
 subst this
 exact ⟨b, o, rfl⟩
section
variable {H : Type} {enc : TypeId × Value → H} {P : Program} {w : World} {base : Nat} {spare : Nat → Bool} {held : Bool}
theorem open_bytes {t e : TypeId} (ht : P.underlying t = some (.slice e)) (he : P.underlying e = some (.int .u8)) (hc : P.cellsOf e = 1) (hby : P.bytesOf e = 1) {r : Reach} {b0 : Nat} {v : Value} {d : DataW H} {p : List MemPlace}
  (hv : Value.okWide P w r b0 t v) (h : DataW.Trod enc P w base spare held t v d p) {ts : List TypeId} {ds : List (DataW H)} (hsz : (DataW.weightsEach P ts ds).all (· ≤ reachBytes) = true) (j : Nat) (hj : ts[j]? = some t) (hd : ds[j]? = some d) :
  ∃ (A : Option Addr) (c d0 : Nat) (l : List UInt8), v = .slice A l.length c ∧ Shows w d0 (.slice A l.length c) l ∧ l.length ≤ 140737488351232 := by
 obtain ⟨A, n, c, rfl⟩ := okWide_slice ht hv
 obtain ⟨fuel, hf⟩ := h
 rcases open_ints ht he hc hf with ⟨hcs, _⟩ | ⟨x, l, c', zs, hcs, _, hl, hm, hz, hx, hcell, hwz⟩
 ·simp [Value.cells] at hcs
  obtain ⟨rfl, rfl, rfl⟩ := hcs
  exact ⟨none, 0, 0, [], rfl, Shows.nil_ _ _, by simp⟩
 ·simp [Value.cells] at hcs
  obtain ⟨rfl, rfl, rfl⟩ := hcs
  simp only [Prod.mk.injEq] at hx
  obtain ⟨rfl, _⟩ := hx
  have hs := sized_slice hsz hj hd ht
  rw [hby] at hs
  have hzl : n ≤ zs.length := by rw [hz]; split <;> omega
  have hlen : n ≤ 140737488351232 := by
   simp only [lits, List.length_map, List.length_take, List.length_drop, reachBytes] at hs
   omega
  have hll : ((zs.take n).map fun q : Int => UInt8.ofNat q.toNat).length = n := by simp; omega
  refine ⟨some x, c, x.block, (zs.take n).map fun q => UInt8.ofNat q.toNat, by rw [hll], ?_, by omega⟩
  refine ⟨some x, c, rfl, by omega, hm, fun hp => ?_⟩
  obtain ⟨b, o, rfl⟩ := addr_plain (hcell 0 (by omega))
  have hc0 := hcell 0 (by omega)
  refine ⟨o, rfl, World.block_lt_of_cell? w _ hc0, fun k hk => ?_⟩
  have hk' : k < n := by omega
  have hcc := hcell k (by omega)
  rw [add_plain'] at hcc
  rw [hcc]
  have hw := hwz (zs.getD k 0) (by simp only [List.getD_eq_getElem?_getD, List.getElem?_eq_getElem (show k < zs.length by omega), Option.getD_some]; exact List.getElem_mem _)
  simp only [Lit.wf, IntKind.min, IntKind.max, IntKind.signed, IntKind.bits, Bool.and_eq_true, decide_eq_true_eq] at hw
  have e : ((zs.take n).map fun q : Int => UInt8.ofNat q.toNat)[k]'hk = UInt8.ofNat (zs.getD k 0).toNat := by
   simp [List.getD, show k < zs.length by omega]
  rw [e]
  clear e hcc
  generalize zs.getD k 0 = q at *
  simp at hw
  simp only [u8c, UInt8.toNat_ofNat']
  congr 2
  omega
def ShowsN (w : World) (d : Nat) (v : Value) (n sz : Nat) (f : Nat → Nat → Value) : Prop :=
  ∃ (A : Option Addr) (c : Nat), v = .slice A n c ∧ n ≤ c ∧ c ≤ maxLen ∧
    (0 < n → ∃ o, A = some ⟨d, o, none⟩ ∧ d < w.heap.size ∧ ∀ i j, i < n → j < sz → w.cell? ⟨d, o + (i * sz + j), none⟩ = some (f i j))
end
end Go.Proofs.YtpbdnfonflmncaaGreat
