/-
  The contracts of frame.Put and of the document's own Put for frames.
  Conditions: none but sizes.
-/
import Derived.Test.YtdjdhnopieeibaaFrA
import Derived.Deep.RegionLaw
import Derived.Deep.CutRange
import Derived.Deep.CutBlock
import Derived.Deep.DeepCutAuto
import Derived.StillTailTactics
namespace Go.Proofs.Ytdjdhnopieeibaa
open Go.RowKit
set_option linter.unusedVariables false
set_option linter.unusedSimpArgs false

/-- 'append' of a string's bytes, at a step of a region that draws its order. -/
theorem step_append8s {P : Program} (w : World) {ops : Array Oper} {o : Oper} {a : Act} {K : Act → World → Prop} {Q : Exit → Act → World → Prop} {E : Prop} (hgd : o.guard = none) (sl x : Operand) (t u : TypeId)
    (ho : o.op = .call { callee := .builtin .append, args := #[sl, x], argTypes := #[t, u] })
    (base : Nat) (e : TypeId) (ht : P.underlying t = some (.slice e)) (hu : P.underlying u = some .string) (hi : (P.info? e).map (fun i => (i.zero, i.size, i.bytes)) = some (some (.int .u8 0), 1, 1))
    (v : Value) (l : List UInt8) (hs : a.eval sl = v) (hown : Own e w base v l) (s : ByteArray) (hx : a.eval x = .string s)
    (hb : l.length + s.size ≤ 140737488355328) (hbase : base ≤ w.heap.size)
    (h : ∀ v' w', Own e w' base v' (l ++ sb s) → w.grownBy w' v.ownBlock → K (a.put o.dst v') w') :
    if Region.wanted o (yielded ops a.tmps) = true then Oper.wp P o a w K Q else E := by
  have hw : Region.wanted o (yielded ops a.tmps) = true := by simp [Region.wanted, hgd]
  rw [if_pos hw]
  obtain ⟨i, hi0, hz, hs1, hb1⟩ := info_parts hi
  obtain ⟨v', w', hr, h2, h3, _⟩ := Lib.run_append_own_string (P := P) w base t u o.type e i ht hu hi0 hz hs1 hb1 v l.length (bs l) hown s (by simp only [maxLen]; omega) hb hbase
  unfold Oper.wp execOp
  simp only [ho, resolve, invoke, builtin, Sem.run_bind, Sem.run_pure, Result.andThen_ok, List.map_toArray, List.map_cons, List.map_nil, hs, hx, hr]
  refine h v' w' ?_ h3
  unfold Own
  rw [bs_append, List.length_append, sb_length]
  exact h2

theorem checkF_le {f : Fr} (h : checkF f = 0) : f.p.size ≤ 4084 := by
  unfold checkF at h
  split at h
  · exact absurd h (by decide)
  · omega
theorem checkF_no {f : Fr} (h : checkF f ≠ 0) : checkF f = 60 := by
  unfold checkF at h ⊢
  split
  · rfl
  · rename_i h1
    rw [if_neg h1] at h
    exact absurd rfl h

set_option maxRecDepth 100000 in
set_option maxHeartbeats 2000000 in
theorem fput_ok (f : Fr) (w : World) (hf : f.ok) (hc : checkF f = 0) :
    Calls Try.prog 17 #[.agg f.vs.toArray] w fun e w' => ∃ v, e = .returned (.tuple #[v, .int .i64 0]) ∧ Own 5 w' w.heap.size v (encF f) ∧ Below w.heap.size w w' := by
  have hp := checkF_le hc
  have HC := Lib.hid (fun w => fcheck_any f w hf.2.2.2)
  rw [hc] at HC
  have HH := Lib.hid (fun w => header_any f w hf hp)
  have HX := Lib.hid (BoxF.new w f)
  have HB0 := Lib.hid (below_box w (Obj.cells #[.bool f.a, .bool f.b, .bool f.c, .bool f.d, .int .u8 f.t, .int .u8 f.k, .int .u16 f.ch, .string f.p] 40))
  have hE : encF f = headB f ++ sb f.p := rfl
  have hhl := headB_length f
  generalize encF f = E at *
  generalize headB f = HB at *
  have HE := Lib.hid hE
  have HHL := Lib.hid hhl
  clear hc hf hE hhl
  obtain ⟨a, b, c, d, t, k, ch, p⟩ := f
  simp only [Fr.vs] at *
  go_enter Try.func17, Try.ntmps17
  go_wp2_with fail
  refine (HC.out _).mono ?_
  rintro e w1 ⟨rfl, hb1⟩
  have hX1 := HX.out.kept hb1 (Nat.le_refl _)
  have HB1 := Lib.hid (HB0.out.trans (hb1.mono HB0.out.size))
  have x0 := hX1.c0
  have x1 := hX1.c1
  have x2 := hX1.c2
  have x3 := hX1.c3
  have x4 := hX1.c4
  have x5 := hX1.c5
  have x6 := hX1.c6
  have x7 := hX1.c7
  have y0 : w1.drew.cell? ⟨w.heap.size, 0, none⟩ = _ := x0
  have y1 : w1.drew.cell? ⟨w.heap.size, 1, none⟩ = _ := x1
  have y2 : w1.drew.cell? ⟨w.heap.size, 2, none⟩ = _ := x2
  have y3 : w1.drew.cell? ⟨w.heap.size, 3, none⟩ = _ := x3
  have y4 : w1.drew.cell? ⟨w.heap.size, 4, none⟩ = _ := x4
  have y5 : w1.drew.cell? ⟨w.heap.size, 5, none⟩ = _ := x5
  have y6 : w1.drew.cell? ⟨w.heap.size, 6, none⟩ = _ := x6
  have y7 : w1.drew.cell? ⟨w.heap.size, 7, none⟩ = _ := x7
  have HX1 := Lib.hid hX1
  clear hX1 hb1
  go_upto_region 4 with fail
  go_region_law (first
    | (go_simp; go_at_call 42
       with_reducible refine (HH.out _).mono ?_
       rintro e w2 ⟨v2, rfl, ho2, hb2⟩
       have hbd : Below w1.heap.size w1 w1.drew := below_drew1 (Below.refl _ _)
       have hb12 : Below w1.heap.size w1 w2 := hbd.trans hb2
       have x7' := (HX1.out.kept hb12 (Nat.le_refl _)).c7)
    | (refine step_append8s _ rfl (.tmp 11) (.tmp 13) 22 9 rfl w1.heap.size 5 Try.underlying22 Try.underlying9 info5 v2 HB rfl ho2 p rfl (by rw [HHL.out]; omega) hb12.size ?_
       intro v3 w3 ho3 hg3))
  all_goals
    go_wp2_with fail
    go_ret2
    refine ⟨v3, rfl, ?_, ?_⟩
    · rw [HE.out]; exact ho3.mono HB1.out.size
    · exact HB1.out.trans ((hb12.grown hg3 hb12.size (fun k hk => (ho2.block k hk).1)).mono HB1.out.size)

set_option maxRecDepth 100000 in
set_option maxHeartbeats 2000000 in
theorem fput_no (f : Fr) (w : World) (hf : f.ok) (hc : checkF f ≠ 0) :
    Calls Try.prog 17 #[.agg f.vs.toArray] w fun e w' => e = .returned (.tuple #[.slice none 0 0, .int .i64 60]) ∧ Below w.heap.size w w' := by
  have hc6 := checkF_no hc
  have HC := Lib.hid (fun w => fcheck_any f w hf.2.2.2)
  rw [hc6] at HC
  have HB0 := Lib.hid (below_box w (Obj.cells #[.bool f.a, .bool f.b, .bool f.c, .bool f.d, .int .u8 f.t, .int .u8 f.k, .int .u16 f.ch, .string f.p] 40))
  clear hc hf hc6
  obtain ⟨a, b, c, d, t, k, ch, p⟩ := f
  simp only [Fr.vs] at *
  go_enter Try.func17, Try.ntmps17
  go_wp2_with fail
  refine (HC.out _).mono ?_
  rintro e w1 ⟨rfl, hb1⟩
  go_wp2_with fail
  go_ret2
  exact ⟨rfl, HB0.out.trans (hb1.mono HB0.out.size)⟩

/-! ### the document's own Put -/
theorem be_one (n : Nat) : be 1 n = [UInt8.ofNat n] := rfl
theorem u8c_ofNat (n : Nat) (h : n < 256) : u8c (UInt8.ofNat n) = .int .u8 n := by
  simp only [u8c, UInt8.toNat_ofNat']
  rw [Nat.mod_eq_of_lt h]
theorem Own.below {w w' : World} {e : TypeId} {base B : Nat} {v : Value} {l : List UInt8} (h : Own e w base v l) (hb : Below B w w') (hB : w.heap.size ≤ B) : Own e w' base v l := h.keep fun g hg => hb.block g (Nat.lt_of_lt_of_le (h.block g hg).2 hB)

theorem encF_list (f : Fr) : encF f = [UInt8.ofNat (flagsD f), UInt8.ofNat f.t] ++ be 2 (12 + f.p.size) ++ [UInt8.ofNat 0, UInt8.ofNat f.k] ++ be 2 f.ch ++ [UInt8.ofNat 0, UInt8.ofNat 0, UInt8.ofNat 0, UInt8.ofNat 0] ++ sb f.p := by
  simp [encF, headB, be]

end Go.Proofs.Ytdjdhnopieeibaa
