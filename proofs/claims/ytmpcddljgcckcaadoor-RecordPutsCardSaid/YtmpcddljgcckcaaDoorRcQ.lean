/-
  The contracts of the document's own Head and Put for records.
  Conditions: sizes.
-/
import Derived.Test.YtmpcddljgcckcaaDoorRcD
import Derived.Test.YtmpcddljgcckcaaDoorOctBig
import Derived.Laws.Concat
namespace Go.Proofs.YtmpcddljgcckcaaDoor
open Go.RowKit
open Crc (sealD okSeal sealD_length sealD_ok okSeal_iff openD Tab)
set_option linter.unusedVariables false
set_option linter.unusedSimpArgs false

theorem rc_step_append8 {P : Program} (w : World) {ops : Array Oper} {o : Oper} {a : Act} {K : Act → World → Prop} {Q : Exit → Act → World → Prop} {E : Prop} (hgd : o.guard = none) (s x : Operand) (t : TypeId)
    (ho : o.op = .call { callee := .builtin .append, args := #[s, x], argTypes := #[t, t] })
    (base : Nat) (e : TypeId) (ht : P.underlying t = some (.slice e)) (hi : (P.info? e).map (fun i => (i.zero, i.size, i.bytes)) = some (some (.int .u8 0), 1, 1))
    (v : Value) (l : List UInt8) (hs : a.eval s = v) (hown : Own e w base v l) (d : Nat) (y : Value) (m : List UInt8) (hx : a.eval x = y) (hm : Shows w d y m)
    (hb : l.length + m.length ≤ 140737488355328) (hbase : base ≤ w.heap.size)
    (h : ∀ v' w', Own e w' base v' (l ++ m) → w.grownBy w' v.ownBlock → K (a.put o.dst v') w') :
    if Region.wanted o (yielded ops a.tmps) = true then Oper.wp P o a w K Q else E := by
  have hw : Region.wanted o (yielded ops a.tmps) = true := by simp [Region.wanted, hgd]
  rw [if_pos hw]
  obtain ⟨i, hi0, hz, hs1, hb1⟩ := info_parts hi
  obtain ⟨v', w', hr, h2, h3⟩ := run_append_own8 (P := P) w base t o.type e i ht hi0 hz hs1 hb1 v l hown d y m hm hb hbase
  unfold Oper.wp execOp
  simp only [ho, resolve, invoke, builtin, Sem.run_bind, Sem.run_pure, Result.andThen_ok, List.map_toArray, List.map_cons, List.map_nil, hs, hx, hr]
  exact h v' w' h2 h3

set_option maxRecDepth 100000 in
set_option maxHeartbeats 4000000 in
theorem qhead_any (r : Rc) (w : World) (h : r.p.size ≤ 70000) : Calls Tryd.prog 20 #[r.v] w fun e w' => ∃ v, e = .returned v ∧ Own 5 w' w.heap.size v (sealD (headP r)) ∧ Below w.heap.size w w' := by
  obtain ⟨k, p⟩ := r
  have hk := k.toNat_lt
  obtain ⟨W0, hW0⟩ : ∃ W0, W0 = w.alloc (.cells #[.int .u8 k.toNat, .string p] 33) := ⟨_, rfl⟩
  have hBox := heap_alloc_new w (.cells #[.int .u8 k.toNat, .string p] 33)
  have hb0 : Below w.heap.size w W0 := by rw [hW0]; exact (Below.refl _ _).alloc (Nat.le_refl _) _
  have hz0 : w.heap.size < W0.heap.size := by rw [hW0]; simp
  rw [← hW0] at hBox
  have HW0 := Lib.hid hW0
  have x0 : ∀ W, Below W0.heap.size W0 W → W.cell? ⟨w.heap.size, 0, none⟩ = some (.int .u8 k.toNat) ∧ W.cell? ⟨w.heap.size, 1, none⟩ = some (.string p) := fun W hb => by
    have hg := (hb.block _ hz0).trans hBox
    exact ⟨by rw [cell_of_row _ _ 0 _ 33 (0, 0) hg]; rfl, by rw [cell_of_row _ _ 1 _ 33 (0, 0) hg]; rfl⟩
  unfold Rc.v
  simp only [] at h ⊢
  clear hW0
  go_enter Tryd.func20, Tryd.ntmps20
  have hu : IntKind.u64.wrap (p.size : Int) = (p.size : Int) := by rw [IntKind.wrap_u64]; omega
  go_upto_region 1 with fail
  rw [← HW0.out]
  obtain ⟨y0, y1⟩ := x0 W0 (Below.refl _ _)
  have z0 : W0.drew.cell? ⟨w.heap.size, 0, none⟩ = some (.int .u8 k.toNat) := y0
  have z1 : W0.drew.cell? ⟨w.heap.size, 1, none⟩ = some (.string p) := y1
  have hbO := (Below.refl W0.heap.size W0).alloc (Nat.le_refl _) (.cells #[.int .u8 k.toNat] 5)
  obtain ⟨u0, u1⟩ := x0 _ hbO
  have t0 : (W0.alloc (.cells #[.int .u8 k.toNat] 5)).drew.cell? ⟨w.heap.size, 0, none⟩ = some (.int .u8 k.toNat) := u0
  have t1 : (W0.alloc (.cells #[.int .u8 k.toNat] 5)).drew.cell? ⟨w.heap.size, 1, none⟩ = some (.string p) := u1
  have HNUM : Hid (∀ W : World, Calls Tryd.prog 28 #[.int .u64 p.size, .int .i64 4] W fun e w' => ∃ v, e = .returned v ∧ Own 5 w' W.heap.size v (be 4 p.size) ∧ Below W.heap.size W w') := Lib.hid (fun W => number_any 4 p.size W (by omega) (by omega))
  have HX0 := Lib.hid x0
  have HB0 := Lib.hid hb0
  have HZ := Lib.hid hz0
  have hsz : W0.heap.size ≤ (W0.alloc (.cells #[.int .u8 k.toNat] 5)).heap.size := by simp
  have HLIT := Lib.hid (fun (W : World) (hB : w.heap.size ≤ W.heap.size) => (Own.lit (w := W) (base := w.heap.size) (e := 5) (cs := #[.int .u8 k.toNat]) [k] (by simp [bs, u8c]) (by simp [maxLen]) hB : Own 5 _ _ _ _))
  have hA : ∀ w2, Below (W0.alloc (.cells #[.int .u8 k.toNat] 5)).drew.heap.size (W0.alloc (.cells #[.int .u8 k.toNat] 5)).drew w2 → Own 5 w2 w.heap.size (.slice (some ⟨W0.heap.size, 0, none⟩) 1 1) [k] ∧ Below w.heap.size w w2 := fun w2 hb => by
    have h1 := HLIT.out W0 (by omega)
    refine ⟨h1.keep fun g hg => hb.block g ?_, (HB0.out.alloc HB0.out.size (.cells #[.int .u8 k.toNat] 5)).drew.trans (hb.mono (by have := hb0.size; simp; omega))⟩
    have := (h1.block g hg).2
    exact this
  have HA := Lib.hid hA
  have HBB := Lib.hid (fun (w2 : World) (hb : Below W0.drew.heap.size W0.drew w2) => HB0.out.drew.trans (hb.mono hb0.size))
  have HE := Lib.hid (show headP ⟨k, p⟩ = [k] ++ be 4 p.size by simp [headP, be])
  have HSEAL := Lib.hid (fun (A : Option Addr) (c d : Nat) (l : List UInt8) (W : World) (n : Nat) (hn : l.length = n) (hl : Shows W d (.slice A n c) l) (hb : l.length ≤ 140737488355324) => Crc.qseal_any A c n d l W hn hl hb)
  have h5 : ([k] ++ be 4 p.size).length = 5 := by simp [be_length]
  have H5 := Lib.hid h5
  have h4 : (be 4 p.size).length = 4 := be_length _ _
  have H4 := Lib.hid h4
  clear x0 hbO hA h5 h4
  go_region_law (first
    | (go_simp; go_at_call 28
       with_reducible refine (HNUM.out _).mono ?_
       rintro e w2 ⟨vN, rfl, hoN, hbN⟩
       obtain ⟨q0, q1⟩ := HX0.out w2 (by first | exact (Below.refl W0.heap.size W0).drew.trans hbN | exact ((Below.refl W0.heap.size W0).alloc (Nat.le_refl _) _).drew.trans (hbN.mono (by simp)))
       obtain ⟨gN, hgN, hsN⟩ := hoN.shows)
    | (refine rc_step_append8 _ rfl (.tmp 5) (.tmp 10) 31 rfl w.heap.size 5 Tryd.underlying31 info5 (.slice (some ⟨W0.heap.size, 0, none⟩) 1 1) [k] rfl (HA.out _ hbN).1 gN vN (be 4 p.size) rfl hsN (by rw [H4.out]; simp) (HA.out _ hbN).2.size ?_
       intro v3 w3 ho3 hg3
       have hw3 : Below w.heap.size w w3 := (HA.out _ hbN).2.grown hg3 (HA.out _ hbN).2.size (fun q hq => ((HA.out _ hbN).1.block q hq).1)
       obtain ⟨A3, c3, rfl, _, _⟩ := ho3.form
       obtain ⟨g3, _, hs3⟩ := ho3.shows)
    | (refine rc_step_append8 _ rfl (.tmp 5) (.tmp 10) 31 rfl w.heap.size 5 Tryd.underlying31 info5 (.slice (some ⟨w2.heap.size, 0, none⟩) 1 1) [k] rfl (HLIT.out w2 (HBB.out _ hbN).size) gN vN (be 4 p.size) rfl (hsN.keep (by simp) (fun hp => Below.heap_alloc _ _ _ (hsN.lt hp))) (by rw [H4.out]; simp) (by have := (HBB.out _ hbN).size; simp; omega) ?_
       intro v3 w3 ho3 hg3
       have hw3 : Below w.heap.size w w3 := ((HBB.out _ hbN).alloc (HBB.out _ hbN).size _).grown hg3 (by have := (HBB.out _ hbN).size; simp; omega) (fun q hq => by have := (HBB.out _ hbN).size; simp [Value.ownBlock] at hq; omega)
       obtain ⟨A3, c3, rfl, _, _⟩ := ho3.form
       obtain ⟨g3, _, hs3⟩ := ho3.shows)
    | (go_simp; go_at_call 21
       refine (HSEAL.out A3 c3 g3 ([k] ++ be 4 p.size) _ 5 H5.out (by rw [H5.out] at hs3; exact hs3) (by rw [H5.out]; omega)).mono ?_
       rintro e w4 ⟨v4, rfl, ho4, hb4⟩))
  all_goals
    go_wp2_with fail
    go_ret
    exact ⟨v4, rfl, by rw [HE.out]; exact ho4.mono hw3.size, hw3.trans (hb4.mono hw3.size)⟩

end Go.Proofs.YtmpcddljgcckcaaDoor
