/-
  The contract of the document's Put of names.
  Conditions: none but sizes.
-/
import Derived.Test.YtalcfglcbpkebaaDoorRef04C
import Derived.Test.YtalcfglcbpkebaaDoorRefRd
namespace Go.Proofs.YtalcfglcbpkebaaDoor
open Go.RowKit
set_option linter.unusedVariables false
set_option linter.unusedSimpArgs false

/-- A name in a block of its own. -/
def Boxed (w : World) (b f : Nat) (g h : ByteArray) : Prop := w.heap[b]? = some (.cells #[.int .u32 f, .string g, .string h] 24 (0, 0))
section
variable {w w' : World} {b f : Nat} {g h : ByteArray}
theorem Boxed.lt (hb : Boxed w b f g h) : b < w.heap.size := (Array.getElem?_eq_some_iff.1 hb).1
theorem Boxed.c0 (hb : Boxed w b f g h) : w.cell? ⟨b, 0, none⟩ = some (.int .u32 f) := by rw [cell_of_row w b _ _ 24 (0, 0) hb]; rfl
theorem Boxed.c1 (hb : Boxed w b f g h) : w.cell? ⟨b, 1, none⟩ = some (.string g) := by rw [cell_of_row w b _ _ 24 (0, 0) hb]; rfl
theorem Boxed.c2 (hb : Boxed w b f g h) : w.cell? ⟨b, 2, none⟩ = some (.string h) := by rw [cell_of_row w b _ _ 24 (0, 0) hb]; rfl
theorem Boxed.keep (hb : Boxed w b f g h) (hk : w'.heap[b]? = w.heap[b]?) : Boxed w' b f g h := hk.trans hb
theorem Boxed.below {B : Nat} (hb : Boxed w b f g h) (hk : Below B w w') (hl : b < B) : Boxed w' b f g h := (hk.block b hl).trans hb
theorem Boxed.new (w : World) : Boxed (w.alloc (Obj.cells #[.int .u32 f, .string g, .string h] 24)) w.heap.size f g h := heap_alloc_new w _
end

/-- A name's bytes. -/
def encX (f : Nat) (g h : ByteArray) : List UInt8 := be 4 f ++ [UInt8.ofNat g.size] ++ sb g ++ [UInt8.ofNat h.size] ++ sb h

theorem qputX_no (f : Nat) (g h : ByteArray) (w : World) (hm : ¬ mayX g h) (hg : g.size ≤ 140737488355328) (hh : h.size ≤ 140737488355328) :
    Calls Tryd.prog 18 #[xidV f g h] w fun e w' => e = .returned (.tuple #[.slice none 0 0, .int .i64 40]) ∧ Below w.heap.size w w' := by
  have hck := Lib.hid (fun w => qcheck_no f g h w hm hg hh)
  unfold xidV at *
  clear hm
  go_enter Tryd.func18, Tryd.ntmps18
  go_wp2_with fail
  refine (hck.out _).mono ?_
  rintro e w1 ⟨rfl, hb1⟩
  go_wp2_with fail
  go_ret2
  exact ⟨rfl, (below_box w _).trans (hb1.mono (by simp))⟩

theorem qputX_ok (f : Nat) (g h : ByteArray) (w : World) (hm : mayX g h) (hf : f < 4294967296) :
    Calls Tryd.prog 18 #[xidV f g h] w fun e w' => ∃ v, e = .returned (.tuple #[v, .int .i64 0]) ∧ Own 5 w' w.heap.size v (encX f g h) ∧ Below w.heap.size w w' := by
  have hck := Lib.hid (fun w => qcheck_ok f g h w hm)
  have hnum := Lib.hid (fun w => number_any 4 f w (by omega) (by omega))
  obtain ⟨m1, m2, m3⟩ := hm
  unfold xidV at *
  have i1 : IntKind.u8.wrap (g.size : Int) = (g.size : Int) := by rw [IntKind.wrap_u8]; omega
  have i2 : IntKind.u8.wrap (h.size : Int) = (h.size : Int) := by rw [IntKind.wrap_u8]; omega
  go_enter Tryd.func18, Tryd.ntmps18
  go_wp2_with fail
  refine (hck.out _).mono ?_
  rintro e w1 ⟨rfl, hb1⟩
  have hbx1 : Boxed w1 w.heap.size f g h := (Boxed.new w).below hb1 (by simp)
  have hw1 : Below w.heap.size w w1 := (below_box w _).trans (hb1.mono (by simp))
  have k0 := hbx1.c0
  go_wp2_with fail
  refine (hnum.out _).mono ?_
  rintro e w2 ⟨v2, rfl, ho2, hb2⟩
  have hbx2 := hbx1.below hb2 hbx1.lt
  have hw2 := hw1.trans (hb2.mono hw1.size)
  have hlt : w.heap.size < w1.heap.size := hbx1.lt
  have hz1 := hb2.size
  generalize w1.heap.size = B at *
  clear hb2 hbx1 k0 hb1
  have k1 := hbx2.c1
  have hl2 := be_length 4 f
  have HE := Lib.hid (show encX f g h = be 4 f ++ [UInt8.ofNat g.size] ++ sb g ++ [UInt8.ofNat h.size] ++ sb h from rfl)
  generalize be 4 f = r2 at *
  have hg8 := sb_length g
  have hh8 := sb_length h
  go_wp2_with (first
    | (at_builtin
       refine wpList_append8 _ rfl (.tmp 12) (.tmp 17) 31 rfl B 5 Tryd.underlying31 info5 v2 r2 rfl (ho2.alloc8 _) w2.heap.size (.slice (some ⟨w2.heap.size, 0, none⟩) 1 1) [UInt8.ofNat g.size] rfl (Shows.lit (w := w2) [UInt8.ofNat g.size] (lit1 g.size (by omega)) (by simp [maxLen])) (by simp; omega) (by simp; omega) ?_
       intro v3 w3 ho3 hg3
       have hbx3 : Boxed w3 w.heap.size f g h := hbx2.keep ((hg3.block _ (by simp; omega) (fun e => by have := (ho2.block _ e.symm).1; omega)).trans (Below.heap_alloc _ _ _ hbx2.lt))
       have hz3 : w2.heap.size < w3.heap.size := by have := hg3.size; simp at this; omega
       have hw3 : Below w.heap.size w w3 := (hw2.alloc hw2.size _).grown hg3 (by simp; omega) (fun q hq => by have := (ho2.block q hq).1; omega)
       have k3 := hbx3.c1)
    | (at_builtin
       refine wpList_append8s _ rfl (.tmp 19) (.tmp 21) 31 9 rfl B 5 Tryd.underlying31 Tryd.underlying9 info5 v3 (r2 ++ [UInt8.ofNat g.size]) rfl ho3 g rfl (by simp; omega) (by omega) ?_
       intro v4 w4 ho4 hg4
       have hbx4 : Boxed w4 w.heap.size f g h := hbx3.keep (hg4.block _ hbx3.lt (fun e => by have := (ho3.block _ e.symm).1; omega))
       have hz4 : w3.heap.size ≤ w4.heap.size := hg4.size
       have hw4 : Below w.heap.size w w4 := hw3.grown hg4 hw3.size (fun q hq => by have := (ho3.block q hq).1; omega)
       have k4 := hbx4.c2)
    | (at_builtin
       refine wpList_append8 _ rfl (.tmp 23) (.tmp 28) 31 rfl B 5 Tryd.underlying31 info5 v4 (r2 ++ [UInt8.ofNat g.size] ++ sb g) rfl (ho4.alloc8 _) w4.heap.size (.slice (some ⟨w4.heap.size, 0, none⟩) 1 1) [UInt8.ofNat h.size] rfl (Shows.lit (w := w4) [UInt8.ofNat h.size] (lit1 h.size (by omega)) (by simp [maxLen])) (by simp; omega) (by simp; omega) ?_
       intro v5 w5 ho5 hg5
       have hbx5 : Boxed w5 w.heap.size f g h := hbx4.keep ((hg5.block _ (by simp; have := hbx4.lt; omega) (fun e => by have := (ho4.block _ e.symm).1; omega)).trans (Below.heap_alloc _ _ _ hbx4.lt))
       have hz5 : w4.heap.size < w5.heap.size := by have := hg5.size; simp at this; omega
       have hw5 : Below w.heap.size w w5 := (hw4.alloc hw4.size _).grown hg5 (by simp; omega) (fun q hq => by have := (ho4.block q hq).1; omega)
       have k5 := hbx5.c2)
    | (at_builtin
       refine wpList_append8s _ rfl (.tmp 30) (.tmp 32) 31 9 rfl B 5 Tryd.underlying31 Tryd.underlying9 info5 v5 (r2 ++ [UInt8.ofNat g.size] ++ sb g ++ [UInt8.ofNat h.size]) rfl ho5 h rfl (by simp; omega) (by omega) ?_
       intro v6 w6 ho6 hg6
       have hw6 : Below w.heap.size w w6 := hw5.grown hg6 hw5.size (fun q hq => by have := (ho5.block q hq).1; omega)))
  go_ret2
  exact ⟨_, rfl, by rw [HE.out]; exact ho6.mono (by omega), hw6⟩

end Go.Proofs.YtalcfglcbpkebaaDoor
