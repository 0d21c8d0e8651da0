/-
  Texts, together: FrA, FrB, FrC.
  Conditions: none but sizes.
-/
import Derived.WalkKit
import Derived.Deep.RegionWith
import Derived.Test.YtdjahdnaihijjaaGreatDoorMemZ
import Derived.Test.YtdjahdnaihijjaaGreatDoorBigZ
import Derived.Test.YtdjahdnaihijjaaGreatDoorOctAZ
import Derived.Test.YtdjahdnaihijjaaGreatDoorOctBigZ
import Derived.Deep.RegionLaw
import Derived.Deep.CutRange
import Derived.Deep.CutBlock
import Derived.Deep.DeepCutAuto
import Derived.StillTailTactics
import Derived.Deep.QuietTactic
import Derived.BigQuiet
/-
  Frames, and how they lie in memory; the contracts of frame.Check, flagsOf, header, Put, and of the document's own Check, bit, Put for frames.
  Conditions: none but sizes.
-/
namespace Go.Proofs.YtdjahdnaihijjaaGreatDoor
open Go.RowKit
set_option linter.unusedVariables false
set_option linter.unusedSimpArgs false

/-- A frame: First, Last, Begin, End, Type, Track, Channel, Payload. -/
structure Fr where
  a : Bool
  b : Bool
  c : Bool
  d : Bool
  t : Nat
  k : Nat
  ch : Nat
  p : ByteArray
deriving DecidableEq

def Fr.vs (f : Fr) : List Value := [.bool f.a, .bool f.b, .bool f.c, .bool f.d, .int .u8 f.t, .int .u8 f.k, .int .u16 f.ch, .string f.p]
/-- How a frame lies: eight cells. -/
def frC : Code Fr := { enc := Fr.vs, sz := 8, len := fun _ => rfl, one := fun x u hu => by simp [Fr.vs] at hu; rcases hu with rfl | rfl | rfl | rfl | rfl | rfl | rfl | rfl <;> rfl, pos := by omega }
/-- Its numbers are of their kinds, its payload is not greater than may come in. -/
def Fr.ok (f : Fr) : Prop := f.t < 256 ∧ f.k < 256 ∧ f.ch < 65536 ∧ f.p.size ≤ 140737488351232

/-- Eight cells in a block of the call's own. -/
def BoxF (w : World) (b : Nat) (f : Fr) : Prop := w.heap[b]? = some (.cells #[.bool f.a, .bool f.b, .bool f.c, .bool f.d, .int .u8 f.t, .int .u8 f.k, .int .u16 f.ch, .string f.p] 51 (0, 0))
section
variable {w w' : World} {b B : Nat} {f : Fr}
theorem BoxF.new (w : World) (f : Fr) : BoxF (w.alloc (Obj.cells #[.bool f.a, .bool f.b, .bool f.c, .bool f.d, .int .u8 f.t, .int .u8 f.k, .int .u16 f.ch, .string f.p] 51)) w.heap.size f := heap_alloc_new w _
theorem BoxF.lt (h : BoxF w b f) : b < w.heap.size := (Array.getElem?_eq_some_iff.1 h).1
theorem BoxF.kept (h : BoxF w b f) (hb : Below B w w') (hB : w.heap.size ≤ B) : BoxF w' b f := (hb.block b (Nat.lt_of_lt_of_le h.lt hB)).trans h
theorem BoxF.c0 (h : BoxF w b f) : w.cell? ⟨b, 0, none⟩ = some (.bool f.a) := by rw [cell_of_row w b _ _ 51 (0, 0) h]; rfl
theorem BoxF.c1 (h : BoxF w b f) : w.cell? ⟨b, 1, none⟩ = some (.bool f.b) := by rw [cell_of_row w b _ _ 51 (0, 0) h]; rfl
theorem BoxF.c2 (h : BoxF w b f) : w.cell? ⟨b, 2, none⟩ = some (.bool f.c) := by rw [cell_of_row w b _ _ 51 (0, 0) h]; rfl
theorem BoxF.c3 (h : BoxF w b f) : w.cell? ⟨b, 3, none⟩ = some (.bool f.d) := by rw [cell_of_row w b _ _ 51 (0, 0) h]; rfl
theorem BoxF.c4 (h : BoxF w b f) : w.cell? ⟨b, 4, none⟩ = some (.int .u8 f.t) := by rw [cell_of_row w b _ _ 51 (0, 0) h]; rfl
theorem BoxF.c5 (h : BoxF w b f) : w.cell? ⟨b, 5, none⟩ = some (.int .u8 f.k) := by rw [cell_of_row w b _ _ 51 (0, 0) h]; rfl
theorem BoxF.c6 (h : BoxF w b f) : w.cell? ⟨b, 6, none⟩ = some (.int .u16 f.ch) := by rw [cell_of_row w b _ _ 51 (0, 0) h]; rfl
theorem BoxF.c7 (h : BoxF w b f) : w.cell? ⟨b, 7, none⟩ = some (.string f.p) := by rw [cell_of_row w b _ _ 51 (0, 0) h]; rfl
end
theorem f_below_box (w : World) (o : Obj) : Below w.heap.size w (w.alloc o) := (Below.refl _ _).alloc (Nat.le_refl _) o

/-! ### Check -/
/-- What Check tells. -/
def checkF (f : Fr) : Nat := if 3 < f.t ∨ 15 < f.k ∨ 4084 < f.p.size then 60 else 0

set_option maxRecDepth 100000 in
set_option maxHeartbeats 1000000 in
theorem fcheck_any (f : Fr) (w : World) (hz : f.p.size ≤ 140737488351232) :
    Calls Tryz.prog 26 #[.agg f.vs.toArray] w fun e w' => e = .returned (.int .i64 (checkF f)) ∧ Below w.heap.size w w' := by
  obtain ⟨a, b, c, d, t, k, ch, p⟩ := f
  simp only [Fr.vs, checkF] at hz ⊢
  by_cases h1 : 3 < t
  · have i1 : (3 : Int) < (t : Int) := by omega
    rw [if_pos (.inl h1)]
    go_enter Tryz.func26, Tryz.ntmps26
    go_wp2_with fail
    go_ret
    exact ⟨rfl, f_below_box _ _⟩
  · have i1 : ¬ (3 : Int) < (t : Int) := by omega
    by_cases h2 : 15 < k
    · have i2 : (15 : Int) < (k : Int) := by omega
      rw [if_pos (.inr (.inl h2))]
      go_enter Tryz.func26, Tryz.ntmps26
      go_wp2_with fail
      go_ret
      exact ⟨rfl, f_below_box _ _⟩
    · have i2 : ¬ (15 : Int) < (k : Int) := by omega
      by_cases h3 : 4084 < p.size
      · have i3 : (4084 : Int) < (p.size : Int) := by omega
        rw [if_pos (.inr (.inr h3))]
        go_enter Tryz.func26, Tryz.ntmps26
        go_wp2_with fail
        go_ret
        exact ⟨rfl, f_below_box _ _⟩
      · have i3 : ¬ (4084 : Int) < (p.size : Int) := by omega
        rw [if_neg (by omega)]
        go_enter Tryz.func26, Tryz.ntmps26
        go_wp2_with fail
        go_ret
        exact ⟨rfl, f_below_box _ _⟩

/-! ### the header -/
/-- The byte of flags. -/
def flagsD (f : Fr) : Nat := (if f.a = true then 8 else 0) + (if f.b = true then 4 else 0) + (if f.c = true then 2 else 0) + (if f.d = true then 1 else 0)
theorem flagsD_lt (f : Fr) : flagsD f < 16 := by
  unfold flagsD
  split <;> split <;> split <;> split <;> decide

set_option maxRecDepth 100000 in
set_option maxHeartbeats 2000000 in
theorem flags_any (f : Fr) (w : World) : Calls Tryz.prog 52 #[.agg f.vs.toArray] w fun e w' => e = .returned (.int .u8 (flagsD f)) ∧ Below w.heap.size w w' := by
  obtain ⟨a, b, c, d, t, k, ch, p⟩ := f
  simp only [Fr.vs, flagsD]
  cases a <;> cases b <;> cases c <;> cases d
  all_goals
    go_enter Tryz.func52, Tryz.ntmps52
    go_wp2_with fail
    go_ret
    exact ⟨rfl, f_below_box _ _⟩

/-- What stands ahead of the payload. -/
def f_headB (f : Fr) : List UInt8 := be 1 (flagsD f) ++ be 1 f.t ++ be 2 (12 + f.p.size) ++ be 1 0 ++ be 1 f.k ++ be 2 f.ch ++ be 4 0
theorem headB_length (f : Fr) : (f_headB f).length = 12 := by simp [f_headB, be_length]
/-- A frame's bytes. -/
def encF (f : Fr) : List UInt8 := f_headB f ++ sb f.p
theorem encF_length (f : Fr) : (encF f).length = 12 + f.p.size := by simp [encF, headB_length, sb_length]

theorem u8u64 (k : Nat) (hk : k < 256) : IntKind.u64.wrap (k : Int) = (k : Int) := by rw [IntKind.wrap_u64]; omega

set_option maxRecDepth 100000 in
set_option maxHeartbeats 4000000 in
theorem header_any (f : Fr) (w : World) (hf : f.ok) (hp : f.p.size ≤ 4084) :
    Calls Tryz.prog 27 #[.agg f.vs.toArray] w fun e w' => ∃ v, e = .returned v ∧ Own 5 w' w.heap.size v (f_headB f) ∧ Below w.heap.size w w' := by
  have HFL := Lib.hid (fun w => flags_any f w)
  have HX := Lib.hid (BoxF.new w f)
  have HHB : Hid (f_headB f = be 1 (flagsD f) ++ be 1 f.t ++ be 2 (12 + f.p.size) ++ be 1 0 ++ be 1 f.k ++ be 2 f.ch ++ be 4 0) := Lib.hid rfl
  have hb0 := f_below_box w (Obj.cells #[.bool f.a, .bool f.b, .bool f.c, .bool f.d, .int .u8 f.t, .int .u8 f.k, .int .u16 f.ch, .string f.p] 51)
  have hflt := flagsD_lt f
  obtain ⟨h1, h2, h3, h4⟩ := hf
  have u1 : IntKind.u64.wrap (flagsD f : Int) = (flagsD f : Int) := u8u64 _ (by omega)
  have u2 : IntKind.u64.wrap (f.t : Int) = (f.t : Int) := u8u64 _ h1
  have u3 : IntKind.u64.wrap (f.k : Int) = (f.k : Int) := u8u64 _ h2
  have u4 : IntKind.u64.wrap (f.ch : Int) = (f.ch : Int) := by rw [IntKind.wrap_u64]; omega
  have u5 : IntKind.u64.wrap (12 + (f.p.size : Int)) = ((12 + f.p.size : Nat) : Int) := by rw [IntKind.wrap_u64]; omega
  have HP := Lib.hid (fun v l d n q w h hl => put_any v l d n q w h hl)
  have x0 := HX.out.c0
  generalize flagsD f = fl at *
  obtain ⟨a, b, c, d, t, k, ch, p⟩ := f
  simp only [Fr.vs] at *
  obtain ⟨z, hz⟩ : ∃ z, z = 12 + p.size := ⟨_, rfl⟩
  rw [← hz] at u5 HHB
  have HZ := Lib.hid hz
  clear hz
  go_enter Tryz.func27, Tryz.ntmps27
  go_wp2_with fail
  refine (HFL.out _).mono ?_
  rintro e w1 ⟨rfl, hb1⟩
  have HX1 := Lib.hid (HX.out.kept hb1 (Nat.le_refl _))
  have hB1 := hb0.trans (hb1.mono hb0.size)
  go_wp2_with fail
  refine (HP.out (.slice none 0 0) [] 0 fl 1 _ (Shows.nil_ _ _) (by simp)).mono ?_
  rintro e w2 ⟨v2, rfl, ho2, hb2⟩
  have HX2 := Lib.hid (HX1.out.kept hb2 (Nat.le_refl _))
  have hB2 := hB1.trans (hb2.mono hB1.size)
  obtain ⟨g2, _, hs2⟩ := ho2.shows
  have y := HX2.out.c4
  clear ho2 hb1 hb2 hB1 HX1
  go_wp2_with fail
  refine (HP.out _ _ g2 t 1 _ hs2 (by simp [be_length]; have := wd_le 1; omega)).mono ?_
  rintro e w3 ⟨v3, rfl, ho3, hb3⟩
  have HX3 := Lib.hid (HX2.out.kept hb3 (Nat.le_refl _))
  have hB3 := hB2.trans (hb3.mono hB2.size)
  obtain ⟨g3, _, hs3⟩ := ho3.shows
  have y3 := HX3.out.c7
  clear ho3 hb3 hB2 HX2 hs2 y
  go_wp2_with fail
  refine (HP.out _ _ g3 z 2 _ hs3 (by simp [be_length]; have := wd_le 1; omega)).mono ?_
  rintro e w4 ⟨v4, rfl, ho4, hb4⟩
  have HX4 := Lib.hid (HX3.out.kept hb4 (Nat.le_refl _))
  have hB4 := hB3.trans (hb4.mono hB3.size)
  obtain ⟨g4, _, hs4⟩ := ho4.shows
  clear ho4 hb4 hB3 HX3 hs3 y3
  go_wp2_with fail
  refine (HP.out _ _ g4 0 1 _ hs4 (by simp [be_length]; have := wd_le 1; have := wd_le 2; omega)).mono ?_
  rintro e w5 ⟨v5, rfl, ho5, hb5⟩
  have HX5 := Lib.hid (HX4.out.kept hb5 (Nat.le_refl _))
  have hB5 := hB4.trans (hb5.mono hB4.size)
  obtain ⟨g5, _, hs5⟩ := ho5.shows
  have y5 := HX5.out.c5
  clear ho5 hb5 hB4 HX4 hs4
  go_wp2_with fail
  refine (HP.out _ _ g5 k 1 _ hs5 (by simp [be_length]; have := wd_le 1; have := wd_le 2; omega)).mono ?_
  rintro e w6 ⟨v6, rfl, ho6, hb6⟩
  have HX6 := Lib.hid (HX5.out.kept hb6 (Nat.le_refl _))
  have hB6 := hB5.trans (hb6.mono hB5.size)
  obtain ⟨g6, _, hs6⟩ := ho6.shows
  have y6 := HX6.out.c6
  clear ho6 hb6 hB5 HX5 hs5 y5
  go_wp2_with fail
  refine (HP.out _ _ g6 ch 2 _ hs6 (by simp [be_length]; have := wd_le 1; have := wd_le 2; omega)).mono ?_
  rintro e w7 ⟨v7, rfl, ho7, hb7⟩
  have hB7 := hB6.trans (hb7.mono hB6.size)
  obtain ⟨g7, _, hs7⟩ := ho7.shows
  clear ho7 hb7 hB6 HX6 hs6 y6
  go_wp2_with fail
  refine (HP.out _ _ g7 0 4 _ hs7 (by simp [be_length]; have := wd_le 1; have := wd_le 2; omega)).mono ?_
  rintro e w8 ⟨v8, rfl, ho8, hb8⟩
  have hB8 := hB7.trans (hb8.mono hB7.size)
  go_wp2_with fail
  go_ret
  refine ⟨_, rfl, ?_, hB8⟩
  rw [HHB.out]
  exact ho8.mono hB7.size

end Go.Proofs.YtdjahdnaihijjaaGreatDoor
/-
  The contracts of frame.Put and of the document's own Put for frames.
  Conditions: none but sizes.
-/
namespace Go.Proofs.YtdjahdnaihijjaaGreatDoor
open Go.RowKit
set_option linter.unusedVariables false
set_option linter.unusedSimpArgs false

/-- 'append' of a string's bytes, at a step of a region that draws its order. -/
theorem step_append8s {P : Program} (w : World) {ops : Array Oper} {o : Oper} {a : Act} {K : Act → World → Prop} {Q : Exit → Act → World → Prop} {E : Prop} (hgd : o.guard = none) (sl x : Operand) (t u : TypeId)
    (ho : o.op = .call { callee := .builtin .append, args := #[sl, x], argTypes := #[t, u] })
    (base : Nat) (e : TypeId) (ht : P.underlying t = some (.slice e)) (hu : P.underlying u = some .string) (hi : (P.info? e).map (fun i => (i.zero, i.size, i.bytes)) = some (some (.int .u8 0), 1, 1))
    (v : Value) (l : List UInt8) (hs : a.eval sl = v) (hown : Own e w base v l) (s : ByteArray) (hx : a.eval x = .string s)
    (hb : l.length + s.size ≤ 140737488355328) (hbase : base ≤ w.heap.size)
    (h : ∀ v' w', Own e w' base v' (l ++ sb s) → w.grownBy w' v.ownBlock → K (a.put o.dst v') w') :
    if Region.wanted o (yielded ops a.tmps) = true then Oper.wp P o a w K Q else E := by
  have hw : Region.wanted o (yielded ops a.tmps) = true := by simp [Region.wanted, hgd]
  rw [if_pos hw]
  obtain ⟨i, hi0, hz, hs1, hb1⟩ := info_parts hi
  obtain ⟨v', w', hr, h2, h3, _⟩ := Lib.run_append_own_string (P := P) w base t u o.type e i ht hu hi0 hz hs1 hb1 v l.length (bs l) hown s (by simp only [maxLen]; omega) hb hbase
  unfold Oper.wp execOp
  simp only [ho, resolve, invoke, builtin, Sem.run_bind, Sem.run_pure, Result.andThen_ok, List.map_toArray, List.map_cons, List.map_nil, hs, hx, hr]
  refine h v' w' ?_ h3
  unfold Own
  rw [bs_append, List.length_append, sb_length]
  exact h2

theorem checkF_le {f : Fr} (h : checkF f = 0) : f.p.size ≤ 4084 := by
  unfold checkF at h
  split at h
  · exact absurd h (by decide)
  · omega
theorem checkF_no {f : Fr} (h : checkF f ≠ 0) : checkF f = 60 := by
  unfold checkF at h ⊢
  split
  · rfl
  · rename_i h1
    rw [if_neg h1] at h
    exact absurd rfl h

set_option maxRecDepth 100000 in
set_option maxHeartbeats 2000000 in
theorem fput_ok (f : Fr) (w : World) (hf : f.ok) (hc : checkF f = 0) :
    Calls Tryz.prog 8 #[.agg f.vs.toArray] w fun e w' => ∃ v, e = .returned (.tuple #[v, .int .i64 0]) ∧ Own 5 w' w.heap.size v (encF f) ∧ Below w.heap.size w w' := by
  have hp := checkF_le hc
  have HC := Lib.hid (fun w => fcheck_any f w hf.2.2.2)
  rw [hc] at HC
  have HH := Lib.hid (fun w => header_any f w hf hp)
  have HX := Lib.hid (BoxF.new w f)
  have HB0 := Lib.hid (f_below_box w (Obj.cells #[.bool f.a, .bool f.b, .bool f.c, .bool f.d, .int .u8 f.t, .int .u8 f.k, .int .u16 f.ch, .string f.p] 51))
  have hE : encF f = f_headB f ++ sb f.p := rfl
  have hhl := headB_length f
  generalize encF f = E at *
  generalize f_headB f = HB at *
  have HE := Lib.hid hE
  have HHL := Lib.hid hhl
  clear hc hf hE hhl
  obtain ⟨a, b, c, d, t, k, ch, p⟩ := f
  simp only [Fr.vs] at *
  go_enter Tryz.func8, Tryz.ntmps8
  go_wp2_with fail
  refine (HC.out _).mono ?_
  rintro e w1 ⟨rfl, hb1⟩
  have hX1 := HX.out.kept hb1 (Nat.le_refl _)
  have HB1 := Lib.hid (HB0.out.trans (hb1.mono HB0.out.size))
  have x0 := hX1.c0
  have x1 := hX1.c1
  have x2 := hX1.c2
  have x3 := hX1.c3
  have x4 := hX1.c4
  have x5 := hX1.c5
  have x6 := hX1.c6
  have x7 := hX1.c7
  have y0 : w1.drew.cell? ⟨w.heap.size, 0, none⟩ = _ := x0
  have y1 : w1.drew.cell? ⟨w.heap.size, 1, none⟩ = _ := x1
  have y2 : w1.drew.cell? ⟨w.heap.size, 2, none⟩ = _ := x2
  have y3 : w1.drew.cell? ⟨w.heap.size, 3, none⟩ = _ := x3
  have y4 : w1.drew.cell? ⟨w.heap.size, 4, none⟩ = _ := x4
  have y5 : w1.drew.cell? ⟨w.heap.size, 5, none⟩ = _ := x5
  have y6 : w1.drew.cell? ⟨w.heap.size, 6, none⟩ = _ := x6
  have y7 : w1.drew.cell? ⟨w.heap.size, 7, none⟩ = _ := x7
  have HX1 := Lib.hid hX1
  clear hX1 hb1
  go_upto_region 4 with fail
  go_region_law (first
    | (go_simp; go_at_call 27
       with_reducible refine (HH.out _).mono ?_
       rintro e w2 ⟨v2, rfl, ho2, hb2⟩
       have hbd : Below w1.heap.size w1 w1.drew := below_drew1 (Below.refl _ _)
       have hb12 : Below w1.heap.size w1 w2 := hbd.trans hb2
       have x7' := (HX1.out.kept hb12 (Nat.le_refl _)).c7)
    | (refine step_append8s _ rfl (.tmp 11) (.tmp 13) 47 9 rfl w1.heap.size 5 Tryz.underlying47 Tryz.underlying9 info5 v2 HB rfl ho2 p rfl (by rw [HHL.out]; omega) hb12.size ?_
       intro v3 w3 ho3 hg3))
  all_goals
    go_wp2_with fail
    go_ret2
    refine ⟨v3, rfl, ?_, ?_⟩
    · rw [HE.out]; exact ho3.mono HB1.out.size
    · exact HB1.out.trans ((hb12.grown hg3 hb12.size (fun k hk => (ho2.block k hk).1)).mono HB1.out.size)

set_option maxRecDepth 100000 in
set_option maxHeartbeats 2000000 in
theorem fput_no (f : Fr) (w : World) (hf : f.ok) (hc : checkF f ≠ 0) :
    Calls Tryz.prog 8 #[.agg f.vs.toArray] w fun e w' => e = .returned (.tuple #[.slice none 0 0, .int .i64 60]) ∧ Below w.heap.size w w' := by
  have hc6 := checkF_no hc
  have HC := Lib.hid (fun w => fcheck_any f w hf.2.2.2)
  rw [hc6] at HC
  have HB0 := Lib.hid (f_below_box w (Obj.cells #[.bool f.a, .bool f.b, .bool f.c, .bool f.d, .int .u8 f.t, .int .u8 f.k, .int .u16 f.ch, .string f.p] 51))
  clear hc hf hc6
  obtain ⟨a, b, c, d, t, k, ch, p⟩ := f
  simp only [Fr.vs] at *
  go_enter Tryz.func8, Tryz.ntmps8
  go_wp2_with fail
  refine (HC.out _).mono ?_
  rintro e w1 ⟨rfl, hb1⟩
  go_wp2_with fail
  go_ret2
  exact ⟨rfl, HB0.out.trans (hb1.mono HB0.out.size)⟩

/-! ### the document's own Put -/
theorem f_be_one (n : Nat) : be 1 n = [UInt8.ofNat n] := rfl
theorem u8c_ofNat (n : Nat) (h : n < 256) : u8c (UInt8.ofNat n) = .int .u8 n := by
  simp only [u8c, UInt8.toNat_ofNat']
  rw [Nat.mod_eq_of_lt h]
theorem Own.below {w w' : World} {e : TypeId} {base B : Nat} {v : Value} {l : List UInt8} (h : Own e w base v l) (hb : Below B w w') (hB : w.heap.size ≤ B) : Own e w' base v l := h.keep fun g hg => hb.block g (Nat.lt_of_lt_of_le (h.block g hg).2 hB)

theorem encF_list (f : Fr) : encF f = [UInt8.ofNat (flagsD f), UInt8.ofNat f.t] ++ be 2 (12 + f.p.size) ++ [UInt8.ofNat 0, UInt8.ofNat f.k] ++ be 2 f.ch ++ [UInt8.ofNat 0, UInt8.ofNat 0, UInt8.ofNat 0, UInt8.ofNat 0] ++ sb f.p := by
  simp [encF, f_headB, be]

end Go.Proofs.YtdjahdnaihijjaaGreatDoor
/-
  How bytes begin well; the contracts of frame.headerRules with its closures, isStart, and of the document's own Well.
  Conditions: none but sizes.
-/
namespace Go.Proofs.YtdjahdnaihijjaaGreatDoor
open Go.RowKit
set_option linter.unusedVariables false
set_option linter.unusedSimpArgs false

/-! ### the bytes of a header -/
def byteAt (l : List UInt8) (i : Nat) : Nat := (l.getD i 0).toNat
theorem byteAt_lt (l : List UInt8) (i : Nat) : byteAt l i < 256 := (l.getD i 0).toNat_lt
theorem byteAt_get {l : List UInt8} {i : Nat} (h : i < l.length) : (l[i]).toNat = byteAt l i := by simp [byteAt, List.getD, h]
def sizeAt (l : List UInt8) : Nat := 256 * byteAt l 2 + byteAt l 3
/-- The greatest that each byte may be. -/
def mostAt : Nat → Nat
  | 0 => 15 | 1 => 3 | 2 => 16 | 3 => 255 | 4 => 0 | 5 => 15 | 6 => 255 | 7 => 255 | _ => 0
theorem mostAt_lt (i : Nat) : mostAt i < 256 := by
  unfold mostAt
  split <;> decide
def okAt (l : List UInt8) (i : Nat) : Bool := if i = 3 then decide (12 ≤ sizeAt l ∧ sizeAt l ≤ 4096) else decide (byteAt l i ≤ mostAt i)
/-- Do bytes begin well? -/
def wellD (l : List UInt8) : Bool := (List.range (min l.length 12)).all (okAt l)
theorem wellD_iff (l : List UInt8) : wellD l = true ↔ ∀ i, i < l.length → i < 12 → okAt l i = true := by
  unfold wellD
  rw [List.all_eq_true]
  constructor
  · intro h i h1 h2
    exact h i (List.mem_range.2 (by omega))
  · intro h i hi
    have := List.mem_range.1 hi
    exact h i (by omega) (by omega)
theorem wellD_no {l : List UInt8} {i : Nat} (h1 : i < l.length) (h2 : i < 12) (h : okAt l i = false) : wellD l = false := by
  cases hw : wellD l with
  | false => rfl
  | true => rw [(wellD_iff l).1 hw i h1 h2] at h; cases h

/-! ### the rules -/
theorem upTo_any (n : Nat) (w : World) : Calls Tryz.prog 54 #[.int .u8 n] w fun e w' => e = .returned (.func (.func 55) #[] #[.pointer (some ⟨w.heap.size, 0, none⟩)]) ∧ w' = w.alloc (Obj.cells #[.int .u8 n] 5) := by
  go_enter Tryz.func54, Tryz.ntmps54
  go_wp2_with fail
  go_ret
  exact ⟨rfl, rfl⟩

theorem rule_any (x c n p : Nat) (w : World) (hc : w.cell? ⟨p, 0, none⟩ = some (.int .u8 n)) : Calls Tryz.prog 55 #[.int .u8 x, .int .u8 c, .pointer (some ⟨p, 0, none⟩)] w fun e w' => e = .returned (.bool (decide (c ≤ n))) ∧ w = w' := by
  by_cases h : c ≤ n
  · have h1 : decide (c ≤ n) = true := by simpa using h
    rw [h1]
    go_enter Tryz.func55, Tryz.ntmps55
    go_wp2_with fail
    go_ret
    exact ⟨rfl, rfl⟩
  · have h1 : decide (c ≤ n) = false := by simpa using h
    rw [h1]
    go_enter Tryz.func55, Tryz.ntmps55
    go_wp2_with fail
    go_ret
    exact ⟨rfl, rfl⟩

theorem wraps_i64 (n : Int) (h₀ : 0 ≤ n) (h₁ : n < 2 ^ 62) : IntKind.i64.wrap n = n := by rw [IntKind.wrap_i64]; omega
theorem wraps_u16 (n : Int) (h₀ : 0 ≤ n) (h₁ : n < 2 ^ 16) : IntKind.u16.wrap n = n := by rw [IntKind.wrap_u16]; omega
theorem orJoin64 (x b : Nat) (hx : x < 256) (hb : b < 256) : bits .or .i64 ((x : Int) * 256) (b : Int) = ((256 * x + b : Nat) : Int) := by
  rw [bits_join .i64 62 (by decide) wraps_i64 8 ((x : Int) * 256) (b : Int) (by omega) (by omega) (by omega) (by omega) (by omega) (by omega)]
  omega
theorem orJoin16 (x b : Nat) (hx : x < 256) (hb : b < 256) : bits .or .u16 ((x : Int) * 256) (b : Int) = ((256 * x + b : Nat) : Int) := by
  rw [bits_join .u16 16 (by decide) wraps_u16 8 ((x : Int) * 256) (b : Int) (by omega) (by omega) (by omega) (by omega) (by omega) (by omega)]
  omega

theorem length_any (x c : Nat) (w : World) (hx : x < 256) (hc : c < 256) : Calls Tryz.prog 56 #[.int .u8 x, .int .u8 c] w fun e w' => e = .returned (.bool (decide (12 ≤ 256 * x + c ∧ 256 * x + c ≤ 4096))) ∧ w = w' := by
  have hj := orJoin64 x c hx hc
  obtain ⟨z, hz⟩ : ∃ z, z = 256 * x + c := ⟨_, rfl⟩
  have hzb : z < 65536 := by omega
  rw [← hz] at hj ⊢
  clear hz
  by_cases h1 : (12 : Int) ≤ (z : Int)
  · by_cases h2 : (z : Int) ≤ 4096
    · have h : decide (12 ≤ z ∧ z ≤ 4096) = true := by simp; omega
      rw [h]
      go_enter Tryz.func56, Tryz.ntmps56
      go_wp2_with fail
      go_ret
      exact ⟨rfl, rfl⟩
    · have h : decide (12 ≤ z ∧ z ≤ 4096) = false := by simp; omega
      rw [h]
      go_enter Tryz.func56, Tryz.ntmps56
      go_wp2_with fail
      go_ret
      exact ⟨rfl, rfl⟩
  · have h : decide (12 ≤ z ∧ z ≤ 4096) = false := by simp; omega
    rw [h]
    go_enter Tryz.func56, Tryz.ntmps56
    go_wp2_with fail
    go_ret
    exact ⟨rfl, rfl⟩

/-- A row of twelve rules. -/
def Rules (w : World) (v : Value) : Prop := ∃ (rb : Nat) (ps : Nat → Nat), v = .slice (some ⟨rb, 0, none⟩) 12 12 ∧ rb < w.heap.size ∧ (∀ i, ps i < w.heap.size) ∧
  ∀ i, i < 12 → w.cell? ⟨rb, i, none⟩ = some (if i = 3 then .func (.func 56) #[] #[] else .func (.func 55) #[] #[.pointer (some ⟨ps i, 0, none⟩)]) ∧ w.cell? ⟨ps i, 0, none⟩ = some (.int .u8 (mostAt i))
theorem Rules.kept {w w' : World} {B : Nat} {v : Value} (h : Rules w v) (hb : Below B w w') (hB : w.heap.size ≤ B) : Rules w' v := by
  obtain ⟨rb, ps, e, h1, h2, h3⟩ := h
  refine ⟨rb, ps, e, Nat.lt_of_lt_of_le h1 hb.size, fun i => Nat.lt_of_lt_of_le (h2 i) hb.size, fun i hi => ?_⟩
  obtain ⟨c1, c2⟩ := h3 i hi
  exact ⟨(World.cell?_of_block (w := w) (hb.block rb (Nat.lt_of_lt_of_le h1 hB))).trans c1, (World.cell?_of_block (w := w) (hb.block _ (Nat.lt_of_lt_of_le (h2 i) hB))).trans c2⟩

set_option maxRecDepth 100000 in
set_option maxHeartbeats 2000000 in
theorem rules_any (w : World) : Calls Tryz.prog 31 #[] w fun e w' => ∃ v, e = .returned v ∧ Rules w' v ∧ Below w.heap.size w w' := by
  have HU := Lib.hid (fun n w => upTo_any n w)
  go_enter Tryz.func31, Tryz.ntmps31
  go_wp2_with fail
  refine (HU.out 0 _).mono ?_
  rintro e w1 ⟨rfl, hw1⟩
  have k1 : w1.heap[w.heap.size]? = some (.cells #[.int .u8 (0 : Nat)] 5 (0, 0)) := by rw [hw1]; exact heap_alloc_new _ _
  have b1 : Below w.heap.size w w1 := by rw [hw1]; exact f_below_box _ _
  clear hw1
  go_wp2_with fail
  refine (HU.out 255 _).mono ?_
  rintro e w2 ⟨rfl, hw2⟩
  have k2 : w2.heap[w1.heap.size]? = some (.cells #[.int .u8 (255 : Nat)] 5 (0, 0)) := by rw [hw2]; exact heap_alloc_new _ _
  have b2 : Below w1.heap.size w1 w2 := by rw [hw2]; exact f_below_box _ _
  clear hw2
  go_wp2_with fail
  refine (HU.out 15 _).mono ?_
  rintro e w3 ⟨rfl, hw3⟩
  have k3 : w3.heap[w2.heap.size]? = some (.cells #[.int .u8 (15 : Nat)] 5 (0, 0)) := by rw [hw3]; exact heap_alloc_new _ _
  have b3 : Below w2.heap.size w2 w3 := by rw [hw3]; exact f_below_box _ _
  clear hw3
  go_wp2_with fail
  refine (HU.out 3 _).mono ?_
  rintro e w4 ⟨rfl, hw4⟩
  have k4 : w4.heap[w3.heap.size]? = some (.cells #[.int .u8 (3 : Nat)] 5 (0, 0)) := by rw [hw4]; exact heap_alloc_new _ _
  have b4 : Below w3.heap.size w3 w4 := by rw [hw4]; exact f_below_box _ _
  clear hw4
  go_wp2_with fail
  refine (HU.out 16 _).mono ?_
  rintro e w5 ⟨rfl, hw5⟩
  have k5 : w5.heap[w4.heap.size]? = some (.cells #[.int .u8 (16 : Nat)] 5 (0, 0)) := by rw [hw5]; exact heap_alloc_new _ _
  have b5 : Below w4.heap.size w4 w5 := by rw [hw5]; exact f_below_box _ _
  clear hw5
  go_wp2_with fail
  refine (HU.out 15 _).mono ?_
  rintro e w6 ⟨rfl, hw6⟩
  have k6 : w6.heap[w5.heap.size]? = some (.cells #[.int .u8 (15 : Nat)] 5 (0, 0)) := by rw [hw6]; exact heap_alloc_new _ _
  have b6 : Below w5.heap.size w5 w6 := by rw [hw6]; exact f_below_box _ _
  clear hw6
  have K1 := Lib.hid k1
  have K2 := Lib.hid k2
  have K3 := Lib.hid k3
  have K4 := Lib.hid k4
  have K5 := Lib.hid k5
  have K6 := Lib.hid k6
  clear k1 k2 k3 k4 k5 k6
  go_wp2_with fail
  go_ret
  obtain ⟨w7, hw7⟩ : ∃ w7, w7 = w6.alloc (Obj.cells #[.func (.func 55) #[] #[.pointer (some ⟨w2.heap.size, 0, none⟩)], .func (.func 55) #[] #[.pointer (some ⟨w3.heap.size, 0, none⟩)], .func (.func 55) #[] #[.pointer (some ⟨w4.heap.size, 0, none⟩)], .func (.func 56) #[] #[], .func (.func 55) #[] #[.pointer (some ⟨w.heap.size, 0, none⟩)],
    .func (.func 55) #[] #[.pointer (some ⟨w5.heap.size, 0, none⟩)], .func (.func 55) #[] #[.pointer (some ⟨w1.heap.size, 0, none⟩)], .func (.func 55) #[] #[.pointer (some ⟨w1.heap.size, 0, none⟩)], .func (.func 55) #[] #[.pointer (some ⟨w.heap.size, 0, none⟩)], .func (.func 55) #[] #[.pointer (some ⟨w.heap.size, 0, none⟩)], .func (.func 55) #[] #[.pointer (some ⟨w.heap.size, 0, none⟩)], .func (.func 55) #[] #[.pointer (some ⟨w.heap.size, 0, none⟩)]] 117) := ⟨_, rfl⟩
  have b7 : Below w6.heap.size w6 w7 := by rw [hw7]; exact f_below_box _ _
  have k7 := heap_alloc_new w6 (Obj.cells #[.func (.func 55) #[] #[.pointer (some ⟨w2.heap.size, 0, none⟩)], .func (.func 55) #[] #[.pointer (some ⟨w3.heap.size, 0, none⟩)], .func (.func 55) #[] #[.pointer (some ⟨w4.heap.size, 0, none⟩)], .func (.func 56) #[] #[], .func (.func 55) #[] #[.pointer (some ⟨w.heap.size, 0, none⟩)],
    .func (.func 55) #[] #[.pointer (some ⟨w5.heap.size, 0, none⟩)], .func (.func 55) #[] #[.pointer (some ⟨w1.heap.size, 0, none⟩)], .func (.func 55) #[] #[.pointer (some ⟨w1.heap.size, 0, none⟩)], .func (.func 55) #[] #[.pointer (some ⟨w.heap.size, 0, none⟩)], .func (.func 55) #[] #[.pointer (some ⟨w.heap.size, 0, none⟩)], .func (.func 55) #[] #[.pointer (some ⟨w.heap.size, 0, none⟩)], .func (.func 55) #[] #[.pointer (some ⟨w.heap.size, 0, none⟩)]] 117)
  rw [← hw7] at k7
  have b67 := b7
  have b57 := b6.trans (b67.mono b6.size)
  have b47 := b5.trans (b57.mono b5.size)
  have b37 := b4.trans (b47.mono b4.size)
  have b27 := b3.trans (b37.mono b3.size)
  have b17 := b2.trans (b27.mono b2.size)
  have b07 := b1.trans (b17.mono b1.size)
  have l1 := (Array.getElem?_eq_some_iff.1 K1.out).1
  have l2 := (Array.getElem?_eq_some_iff.1 K2.out).1
  have l3 := (Array.getElem?_eq_some_iff.1 K3.out).1
  have l4 := (Array.getElem?_eq_some_iff.1 K4.out).1
  have l5 := (Array.getElem?_eq_some_iff.1 K5.out).1
  have l6 := (Array.getElem?_eq_some_iff.1 K6.out).1
  have l7 := (Array.getElem?_eq_some_iff.1 k7).1
  have m1 := (b17.block _ l1).trans K1.out
  have m2 := (b27.block _ l2).trans K2.out
  have m3 := (b37.block _ l3).trans K3.out
  have m4 := (b47.block _ l4).trans K4.out
  have m5 := (b57.block _ l5).trans K5.out
  have m6 := (b67.block _ l6).trans K6.out
  refine ⟨_, rfl, ?_, ?_⟩
  · rw [← hw7]
    refine ⟨w6.heap.size, fun i => if i = 0 then w2.heap.size else if i = 1 then w3.heap.size else if i = 2 then w4.heap.size else if i = 5 then w5.heap.size else if i = 6 ∨ i = 7 then w1.heap.size else if i = 3 then w1.heap.size else w.heap.size, rfl, l7, fun i => ?_, fun i hi => ?_⟩
    · simp only []
      have s1 := b1.size
      have s2 := b2.size
      have s3 := b3.size
      have s4 := b4.size
      have s5 := b5.size
      have s6 := b6.size
      repeat' split
      all_goals omega
    · rw [cell_of_row w7 w6.heap.size i _ 117 (0, 0) k7]
      rcases (show i = 0 ∨ i = 1 ∨ i = 2 ∨ i = 3 ∨ i = 4 ∨ i = 5 ∨ i = 6 ∨ i = 7 ∨ i = 8 ∨ i = 9 ∨ i = 10 ∨ i = 11 by omega) with rfl | rfl | rfl | rfl | rfl | rfl | rfl | rfl | rfl | rfl | rfl | rfl
      · exact ⟨rfl, by show w7.cell? ⟨w2.heap.size, 0, none⟩ = _; rw [cell_of_row w7 _ 0 _ 5 (0, 0) m3]; rfl⟩
      · exact ⟨rfl, by show w7.cell? ⟨w3.heap.size, 0, none⟩ = _; rw [cell_of_row w7 _ 0 _ 5 (0, 0) m4]; rfl⟩
      · exact ⟨rfl, by show w7.cell? ⟨w4.heap.size, 0, none⟩ = _; rw [cell_of_row w7 _ 0 _ 5 (0, 0) m5]; rfl⟩
      · exact ⟨rfl, by show w7.cell? ⟨w1.heap.size, 0, none⟩ = _; rw [cell_of_row w7 _ 0 _ 5 (0, 0) m2]; rfl⟩
      · exact ⟨rfl, by show w7.cell? ⟨w.heap.size, 0, none⟩ = _; rw [cell_of_row w7 _ 0 _ 5 (0, 0) m1]; rfl⟩
      · exact ⟨rfl, by show w7.cell? ⟨w5.heap.size, 0, none⟩ = _; rw [cell_of_row w7 _ 0 _ 5 (0, 0) m6]; rfl⟩
      · exact ⟨rfl, by show w7.cell? ⟨w1.heap.size, 0, none⟩ = _; rw [cell_of_row w7 _ 0 _ 5 (0, 0) m2]; rfl⟩
      · exact ⟨rfl, by show w7.cell? ⟨w1.heap.size, 0, none⟩ = _; rw [cell_of_row w7 _ 0 _ 5 (0, 0) m2]; rfl⟩
      · exact ⟨rfl, by show w7.cell? ⟨w.heap.size, 0, none⟩ = _; rw [cell_of_row w7 _ 0 _ 5 (0, 0) m1]; rfl⟩
      · exact ⟨rfl, by show w7.cell? ⟨w.heap.size, 0, none⟩ = _; rw [cell_of_row w7 _ 0 _ 5 (0, 0) m1]; rfl⟩
      · exact ⟨rfl, by show w7.cell? ⟨w.heap.size, 0, none⟩ = _; rw [cell_of_row w7 _ 0 _ 5 (0, 0) m1]; rfl⟩
      · exact ⟨rfl, by show w7.cell? ⟨w.heap.size, 0, none⟩ = _; rw [cell_of_row w7 _ 0 _ 5 (0, 0) m1]; rfl⟩
  · rw [← hw7]; exact b07

end Go.Proofs.YtdjahdnaihijjaaGreatDoor
