/-
  The contracts of frame.Put and of the document's own Put for frames.
  Conditions: none but sizes.
-/
import Derived.Test.YtocankfabgjjmaaFrA
import Derived.Deep.RegionLaw
import Derived.Deep.CutRange
import Derived.Deep.CutBlock
import Derived.Deep.DeepCutAuto
import Derived.StillTailTactics
namespace Go.Proofs.Ytocankfabgjjmaa
open Go.RowKit
set_option linter.unusedVariables false
set_option linter.unusedSimpArgs false

/-- 'append' of a string's bytes, at a step of a region that draws its order. -/
theorem step_append8s {P : Program} (w : World) {ops : Array Oper} {o : Oper} {a : Act} {K : Act → World → Prop} {Q : Exit → Act → World → Prop} {E : Prop} (hgd : o.guard = none) (sl x : Operand) (t u : TypeId)
    (ho : o.op = .call { callee := .builtin .append, args := #[sl, x], argTypes := #[t, u] })
    (base : Nat) (e : TypeId) (ht : P.underlying t = some (.slice e)) (hu : P.underlying u = some .string) (hi : (P.info? e).map (fun i => (i.zero, i.size, i.bytes)) = some (some (.int .u8 0), 1, 1))
    (v : Value) (l : List UInt8) (hs : a.eval sl = v) (hown : Own e w base v l) (s : ByteArray) (hx : a.eval x = .string s)
    (hb : l.length + s.size ≤ 140737488355328) (hbase : base ≤ w.heap.size)
    (h : ∀ v' w', Own e w' base v' (l ++ sb s) → w.grownBy w' v.ownBlock → K (a.put o.dst v') w') :
    if Region.wanted o (yielded ops a.tmps) = true then Oper.wp P o a w K Q else E := by
  have hw : Region.wanted o (yielded ops a.tmps) = true := by simp [Region.wanted, hgd]
  rw [if_pos hw]
  obtain ⟨i, hi0, hz, hs1, hb1⟩ := info_parts hi
  obtain ⟨v', w', hr, h2, h3, _⟩ := Lib.run_append_own_string (P := P) w base t u o.type e i ht hu hi0 hz hs1 hb1 v l.length (bs l) hown s (by simp only [maxLen]; omega) hb hbase
  unfold Oper.wp execOp
  simp only [ho, resolve, invoke, builtin, Sem.run_bind, Sem.run_pure, Result.andThen_ok, List.map_toArray, List.map_cons, List.map_nil, hs, hx, hr]
  refine h v' w' ?_ h3
  unfold Own
  rw [bs_append, List.length_append, sb_length]
  exact h2

theorem checkF_le {f : Fr} (h : checkF f = 0) : f.p.size ≤ 4084 := by
  unfold checkF at h
  split at h
  · exact absurd h (by decide)
  · omega
theorem checkF_no {f : Fr} (h : checkF f ≠ 0) : checkF f = 60 := by
  unfold checkF at h ⊢
  split
  · rfl
  · rename_i h1
    rw [if_neg h1] at h
    exact absurd rfl h

/-! ### the document's own Put -/
theorem f_be_one (n : Nat) : be 1 n = [UInt8.ofNat n] := rfl
theorem u8c_ofNat (n : Nat) (h : n < 256) : u8c (UInt8.ofNat n) = .int .u8 n := by
  simp only [u8c, UInt8.toNat_ofNat']
  rw [Nat.mod_eq_of_lt h]
theorem Own.below {w w' : World} {e : TypeId} {base B : Nat} {v : Value} {l : List UInt8} (h : Own e w base v l) (hb : Below B w w') (hB : w.heap.size ≤ B) : Own e w' base v l := h.keep fun g hg => hb.block g (Nat.lt_of_lt_of_le (h.block g hg).2 hB)

theorem encF_list (f : Fr) : encF f = [UInt8.ofNat (flagsD f), UInt8.ofNat f.t] ++ be 2 (12 + f.p.size) ++ [UInt8.ofNat 0, UInt8.ofNat f.k] ++ be 2 f.ch ++ [UInt8.ofNat 0, UInt8.ofNat 0, UInt8.ofNat 0, UInt8.ofNat 0] ++ sb f.p := by
  simp [encF, f_headB, be]

end Go.Proofs.Ytocankfabgjjmaa
