/-
  The contract of xid's Get.
  Conditions: at most 2^47 bytes.
-/
import Derived.Test.YtalcfglcbpkebaaDoorXiP
import Derived.Test.YtalcfglcbpkebaaDoorXiA
import Derived.Test.YtalcfglcbpkebaaDoorOctE
namespace Go.Proofs.YtalcfglcbpkebaaDoor
open Go.RowKit
set_option linter.unusedVariables false
set_option linter.unusedSimpArgs false

theorem Shows.head_ {w : World} {d c k : Nat} {A : Option Addr} {l : List UInt8} (h : Shows w d (.slice A l.length c) l) (hk : k ≤ l.length) : Shows w d (.slice A (l.take k).length c) (l.take k) := by
  obtain ⟨h1, h2, h3⟩ := h.lens
  refine ⟨A, c, rfl, by simp; omega, h3, fun hp => ?_⟩
  simp at hp
  obtain ⟨o, h5, h6, h7⟩ := h.at_ (by omega)
  exact ⟨o, h5, h6, fun j hj => by rw [h7 j (by simp at hj; omega)]; simp⟩

theorem setX {w : World} {g d X j : Nat} {v : Value} {s : Option (List UInt8)} (h : RS w g d s) (hg : g ≠ X) (hd : d ≠ X) : RS (w.setCell ⟨X, j, none⟩ v) g d s :=
  h.keep (by simp) (heap_setCell_other w ⟨X, j, none⟩ g v hg) (fun _ => heap_setCell_other w ⟨X, j, none⟩ d v hd)

set_option maxHeartbeats 4000000 in
set_option maxRecDepth 100000 in
theorem get_short (A : Option Addr) (c d : Nat) (b : List UInt8) (w : World) (hv : Shows w d (.slice A b.length c) b) (hb : b.length ≤ 140737488355328) (hn : (gx3 (b.take 516)).2 = none) :
    Calls Tryd.prog 21 #[.slice A b.length c] w fun e w' => e = .returned (.tuple #[xidV 0 ByteArray.empty ByteArray.empty, .int .i64 0, .int .i64 4]) ∧ Below w.heap.size w w' := by
  obtain ⟨F, hFe⟩ : ∃ F, F = b.take 516 := ⟨_, rfl⟩
  rw [← hFe] at hn
  have hFl : F.length ≤ 516 := by rw [hFe]; simp; omega
  obtain ⟨_, hc1, hc2⟩ := hv.lens
  have hsh : Shows w d (.slice A F.length c) F := by
    rw [hFe]
    by_cases h : 516 ≤ b.length
    · exact hv.head_ h
    · rw [List.take_of_length_le (by omega)]; exact hv
  have hs0 : lenS (some F) ≤ 140737488355328 := by simp only [lenS]; omega
  have hs1 : lenS (gx1 F).2 ≤ 140737488355328 := Nat.le_trans (numS_lenS _ _) hs0
  have hs2 : lenS (gx2 F).2 ≤ 140737488355328 := Nat.le_trans (textS_lenS _ _ _) hs1
  have hopen := Lib.hid (fun v w (h : Shows w d v F) => open_any v F d w h (by omega))
  have hnum := Lib.hid (fun g d w (h : RS w g d (some F)) => num_any g d (some F) 4 w h hs0)
  have ht1 := Lib.hid (fun g d w (h : RS w g d (gx1 F).2) => text_any g d (gx1 F).2 1 255 w h hs1 (by omega) (by omega))
  have ht2 := Lib.hid (fun g d w (h : RS w g d (gx2 F).2) => text_any g d (gx2 F).2 1 255 w h hs2 (by omega) (by omega))
  rw [show numS 4 (some F) = gx1 F from rfl] at hnum
  rw [show textS 1 255 (gx1 F).2 = gx2 F from rfl] at ht1
  rw [show textS 1 255 (gx2 F).2 = gx3 F from rfl, hn] at ht2
  have hx : (gx1 F).1 < 4294967296 := numS4_lt _
  generalize gx1 F = p1 at *
  generalize gx2 F = p2 at *
  generalize gx3 F = p3 at *
  clear hs0 hs1 hs2
  have wr1 : IntKind.u32.wrap (p1.1 : Int) = (p1.1 : Int) := by rw [IntKind.wrap_u32]; omega
  have HFE : (516 < b.length ∧ F.length = 516) ∨ (b.length ≤ 516 ∧ F.length = b.length) := by
    rw [hFe]
    rcases Nat.lt_or_ge 516 b.length with h | h
    · left; exact ⟨h, by simp; omega⟩
    · right; exact ⟨h, by rw [List.take_of_length_le h]⟩
  have HWR := Lib.hid wr1
  clear hFe wr1 hFl hn
  rcases HFE with ⟨h516, hfl⟩ | ⟨h516, hfl⟩
  case' inl => have t516 : (516 : Int) < (b.length : Int) := by omega
  case' inr => have t516 : ¬ (516 : Int) < (b.length : Int) := by omega
  all_goals
    rw [hfl] at hsh
    have HFL := Lib.hid hfl
    clear hfl
    go_enter Tryd.func21, Tryd.ntmps21
    go_wp2_with fail
    refine (hopen.out _ _ (hsh.keep (by simp) fun hp => Below.heap_alloc _ _ _ (hsh.lt hp))).mono ?_
    rintro e w1 ⟨g, d', rfl, hq, hg, ⟨_, hdg⟩, hb1⟩
    have hgl : w.heap.size < g := by simp at hg; omega
    have hglt : g < w1.heap.size := hq.lt
    have hR1 : Boxed w1 w.heap.size 0 ⟨#[]⟩ ⟨#[]⟩ := (Boxed.new w).below hb1 (by simp)
    have hw1 : Below w.heap.size w w1 := (below_box w _).trans (hb1.mono (by simp))
    clear hb1 hg hsh
    go_wp2_with fail
    have hqx : RS (w1.alloc (Obj.cells #[.int .u32 0, .string ⟨#[]⟩, .string ⟨#[]⟩] 24)) g d' (some F) := hq.keep (by simp) (Below.heap_alloc w1 _ _ hglt) (fun hd => Below.heap_alloc w1 _ _ hd)
    have hX1 : Boxed (w1.alloc (Obj.cells #[.int .u32 0, .string ⟨#[]⟩, .string ⟨#[]⟩] 24)) w1.heap.size 0 ⟨#[]⟩ ⟨#[]⟩ := Boxed.new w1
    have hRx : Boxed (w1.alloc (Obj.cells #[.int .u32 0, .string ⟨#[]⟩, .string ⟨#[]⟩] 24)) w.heap.size 0 ⟨#[]⟩ ⟨#[]⟩ := hR1.keep (Below.heap_alloc w1 _ _ hR1.lt)
    have hwx : Below w.heap.size w (w1.alloc (Obj.cells #[.int .u32 0, .string ⟨#[]⟩, .string ⟨#[]⟩] 24)) := hw1.alloc hw1.size _
    have hRl := hR1.lt
    generalize w1.alloc (Obj.cells #[.int .u32 0, .string ⟨#[]⟩, .string ⟨#[]⟩] 24) = w2 at *
    generalize w1.heap.size = X at *
    refine (hnum.out g d' w2 hqx).mono ?_
    rintro e w3 ⟨rfl, hq3, hg3⟩
    have hX3 := hX1.keep (hg3.block _ hX1.lt (fun e => by cases e; omega))
    have hR3 := hRx.keep (hg3.block _ hRx.lt (fun e => by cases e; omega))
    have hw3 : Below w.heap.size w w3 := hwx.trans (below_of_grown hg3 (by omega) hwx.size)
    have x0 := hX3.c0
    have y0 := hX3.froz 0
    have wr1 := HWR.out
    go_wp2_with fail
    have hX4 : Boxed (w3.setCell ⟨X, 0, none⟩ (.int .u32 p1.1)) X p1.1 ⟨#[]⟩ ⟨#[]⟩ := heap_setCell_same w3 X 0 _ 24 _ hX3
    have hR4 := hR3.keep (heap_setCell_other w3 ⟨X, 0, none⟩ _ (.int .u32 p1.1) (by simp; omega))
    have hq4 : RS (w3.setCell ⟨X, 0, none⟩ (.int .u32 p1.1)) g d' p1.2 := setX hq3 (by omega) (by omega)
    have hw4 := below_set hw3 (Nat.le_of_lt hRl) (b := X) (j := 0) (.int .u32 p1.1)
    clear hX1 hRx hwx hX3 hR3 hq3 hg3 x0 y0 wr1 hqx hq hw1 hR1
    generalize w3.setCell ⟨X, 0, none⟩ (.int .u32 p1.1) = w4 at *
    refine (ht1.out g d' w4 hq4).mono ?_
    rintro e w5 ⟨rfl, hq5, hg5⟩
    have hX5 := hX4.keep (hg5.block _ hX4.lt (fun e => by cases e; omega))
    have hR5 := hR4.keep (hg5.block _ hR4.lt (fun e => by cases e; omega))
    have hw5 : Below w.heap.size w w5 := hw4.trans (below_of_grown hg5 (by omega) hw4.size)
    have x1 := hX5.c1
    have y1 := hX5.froz 1
    go_wp2_with fail
    have hX6 : Boxed (w5.setCell ⟨X, 1, none⟩ (.string (str8 p2.1))) X p1.1 (str8 p2.1) ⟨#[]⟩ := heap_setCell_same w5 X 1 _ 24 _ hX5
    have hR6 := hR5.keep (heap_setCell_other w5 ⟨X, 1, none⟩ _ (.string (str8 p2.1)) (by simp; omega))
    have hq6 : RS (w5.setCell ⟨X, 1, none⟩ (.string (str8 p2.1))) g d' p2.2 := setX hq5 (by omega) (by omega)
    have hw6 := below_set hw5 (Nat.le_of_lt hRl) (b := X) (j := 1) (.string (str8 p2.1))
    clear hX4 hR4 hq4 hw4 hX5 hR5 hq5 hg5 x1 y1
    generalize w5.setCell ⟨X, 1, none⟩ (.string (str8 p2.1)) = w6 at *
    refine (ht2.out g d' w6 hq6).mono ?_
    rintro e w7 ⟨rfl, hq7, hg7⟩
    have hX7 := hX6.keep (hg7.block _ hX6.lt (fun e => by cases e; omega))
    have hR7 := hR6.keep (hg7.block _ hR6.lt (fun e => by cases e; omega))
    have hw7 : Below w.heap.size w w7 := hw6.trans (below_of_grown hg7 (by omega) hw6.size)
    have x2 := hX7.c2
    have y2 := hX7.froz 2
    go_wp2_with fail
    have hX8 : Boxed (w7.setCell ⟨X, 2, none⟩ (.string (str8 p3.1))) X p1.1 (str8 p2.1) (str8 p3.1) := heap_setCell_same w7 X 2 _ 24 _ hX7
    have hR8 := hR7.keep (heap_setCell_other w7 ⟨X, 2, none⟩ _ (.string (str8 p3.1)) (by simp; omega))
    have hq8 : RS (w7.setCell ⟨X, 2, none⟩ (.string (str8 p3.1))) g d' none := setX hq7 (by omega) (by omega)
    have hw8 := below_set hw7 (Nat.le_of_lt hRl) (b := X) (j := 2) (.string (str8 p3.1))
    clear hX6 hR6 hq6 hw6 hX7 hR7 hq7 hg7 x2 y2
    generalize w7.setCell ⟨X, 2, none⟩ (.string (str8 p3.1)) = w8 at *
    obtain ⟨l8, hq8⟩ := hq8
    refine (bad_yes g d' l8 w8 hq8).mono ?_
    rintro e w9 ⟨rfl, rfl⟩
    have hR9 := hR8
    have hw9 := hw8
    have r5 := heap_setCell_same w8 w.heap.size 0 _ 24 (.int .u32 0) hR9
    have r6 := heap_setCell_same _ w.heap.size 1 _ 24 (.string ⟨#[]⟩) r5
    have r7 := heap_setCell_same _ w.heap.size 2 _ 24 (.string ⟨#[]⟩) r6
    have HR := Lib.hid r7
    have k0 := hR9.c0
    have k1 := hR9.c1
    have k2 := hR9.c2
    have f0 := hR9.froz 0
    have f1 := hR9.froz 1
    have f2 := hR9.froz 2
    clear r5 r6 r7
    go_wp2_with fail
    (try simp only [Exit.inBlock, Exit.then])
    exact bodyPost_ret (results_cell_tmp2 rfl _ _ w.heap.size 24 _ (0, 0) _ rfl HR.out Tryd.underlying24 rfl (by kernel_rfl)) rfl ⟨rfl, below_set (below_set (below_set hw9 (Nat.le_refl _) _) (Nat.le_refl _) _) (Nat.le_refl _) _⟩

set_option maxHeartbeats 4000000 in
set_option maxRecDepth 100000 in
theorem get_bad (A : Option Addr) (c d : Nat) (b : List UInt8) (w : World) (hv : Shows w d (.slice A b.length c) b) (hb : b.length ≤ 140737488355328) (rest : List UInt8) (hn : (gx3 (b.take 516)).2 = some rest) (hm : ¬ mayX (str8 (gx2 (b.take 516)).1) (str8 (gx3 (b.take 516)).1)) :
    Calls Tryd.prog 21 #[.slice A b.length c] w fun e w' => e = .returned (.tuple #[xidV 0 ByteArray.empty ByteArray.empty, .int .i64 0, .int .i64 40]) ∧ Below w.heap.size w w' := by
  obtain ⟨F, hFe⟩ : ∃ F, F = b.take 516 := ⟨_, rfl⟩
  rw [← hFe] at hn hm
  have hFl : F.length ≤ 516 := by rw [hFe]; simp; omega
  obtain ⟨_, hc1, hc2⟩ := hv.lens
  have hsh : Shows w d (.slice A F.length c) F := by
    rw [hFe]
    by_cases h : 516 ≤ b.length
    · exact hv.head_ h
    · rw [List.take_of_length_le (by omega)]; exact hv
  have hs0 : lenS (some F) ≤ 140737488355328 := by simp only [lenS]; omega
  have hs1 : lenS (gx1 F).2 ≤ 140737488355328 := Nat.le_trans (numS_lenS _ _) hs0
  have hs2 : lenS (gx2 F).2 ≤ 140737488355328 := Nat.le_trans (textS_lenS _ _ _) hs1
  have hopen := Lib.hid (fun v w (h : Shows w d v F) => open_any v F d w h (by omega))
  have hnum := Lib.hid (fun g d w (h : RS w g d (some F)) => num_any g d (some F) 4 w h hs0)
  have ht1 := Lib.hid (fun g d w (h : RS w g d (gx1 F).2) => text_any g d (gx1 F).2 1 255 w h hs1 (by omega) (by omega))
  have ht2 := Lib.hid (fun g d w (h : RS w g d (gx2 F).2) => text_any g d (gx2 F).2 1 255 w h hs2 (by omega) (by omega))
  rw [show numS 4 (some F) = gx1 F from rfl] at hnum
  rw [show textS 1 255 (gx1 F).2 = gx2 F from rfl] at ht1
  rw [show textS 1 255 (gx2 F).2 = gx3 F from rfl, hn] at ht2
  have hx : (gx1 F).1 < 4294967296 := numS4_lt _
  have hy2 : (gx2 F).1.length ≤ F.length := Nat.le_trans (textS_fst_le _ _ _) (numS_lenS _ _)
  have hy3 : (gx3 F).1.length ≤ F.length := Nat.le_trans (textS_fst_le _ _ _) (Nat.le_trans (textS_lenS _ _ _) (numS_lenS _ _))
  have hck := Lib.hid (fun w => check_no (gx1 F).1 (str8 (gx2 F).1) (str8 (gx3 F).1) w hm (by rw [str8_size]; omega) (by rw [str8_size]; omega))
  clear hy2 hy3 hm
  unfold xidV at *
  generalize gx1 F = p1 at *
  generalize gx2 F = p2 at *
  generalize gx3 F = p3 at *
  clear hs0 hs1 hs2
  have wr1 : IntKind.u32.wrap (p1.1 : Int) = (p1.1 : Int) := by rw [IntKind.wrap_u32]; omega
  have HFE : (516 < b.length ∧ F.length = 516) ∨ (b.length ≤ 516 ∧ F.length = b.length) := by
    rw [hFe]
    rcases Nat.lt_or_ge 516 b.length with h | h
    · left; exact ⟨h, by simp; omega⟩
    · right; exact ⟨h, by rw [List.take_of_length_le h]⟩
  have HWR := Lib.hid wr1
  clear hFe wr1 hFl hn
  rcases HFE with ⟨h516, hfl⟩ | ⟨h516, hfl⟩
  case' inl => have t516 : (516 : Int) < (b.length : Int) := by omega
  case' inr => have t516 : ¬ (516 : Int) < (b.length : Int) := by omega
  all_goals
    rw [hfl] at hsh
    have HFL := Lib.hid hfl
    clear hfl
    go_enter Tryd.func21, Tryd.ntmps21
    go_wp2_with fail
    refine (hopen.out _ _ (hsh.keep (by simp) fun hp => Below.heap_alloc _ _ _ (hsh.lt hp))).mono ?_
    rintro e w1 ⟨g, d', rfl, hq, hg, ⟨_, hdg⟩, hb1⟩
    have hgl : w.heap.size < g := by simp at hg; omega
    have hglt : g < w1.heap.size := hq.lt
    have hR1 : Boxed w1 w.heap.size 0 ⟨#[]⟩ ⟨#[]⟩ := (Boxed.new w).below hb1 (by simp)
    have hw1 : Below w.heap.size w w1 := (below_box w _).trans (hb1.mono (by simp))
    clear hb1 hg hsh
    go_wp2_with fail
    have hqx : RS (w1.alloc (Obj.cells #[.int .u32 0, .string ⟨#[]⟩, .string ⟨#[]⟩] 24)) g d' (some F) := hq.keep (by simp) (Below.heap_alloc w1 _ _ hglt) (fun hd => Below.heap_alloc w1 _ _ hd)
    have hX1 : Boxed (w1.alloc (Obj.cells #[.int .u32 0, .string ⟨#[]⟩, .string ⟨#[]⟩] 24)) w1.heap.size 0 ⟨#[]⟩ ⟨#[]⟩ := Boxed.new w1
    have hRx : Boxed (w1.alloc (Obj.cells #[.int .u32 0, .string ⟨#[]⟩, .string ⟨#[]⟩] 24)) w.heap.size 0 ⟨#[]⟩ ⟨#[]⟩ := hR1.keep (Below.heap_alloc w1 _ _ hR1.lt)
    have hwx : Below w.heap.size w (w1.alloc (Obj.cells #[.int .u32 0, .string ⟨#[]⟩, .string ⟨#[]⟩] 24)) := hw1.alloc hw1.size _
    have hRl := hR1.lt
    generalize w1.alloc (Obj.cells #[.int .u32 0, .string ⟨#[]⟩, .string ⟨#[]⟩] 24) = w2 at *
    generalize w1.heap.size = X at *
    refine (hnum.out g d' w2 hqx).mono ?_
    rintro e w3 ⟨rfl, hq3, hg3⟩
    have hX3 := hX1.keep (hg3.block _ hX1.lt (fun e => by cases e; omega))
    have hR3 := hRx.keep (hg3.block _ hRx.lt (fun e => by cases e; omega))
    have hw3 : Below w.heap.size w w3 := hwx.trans (below_of_grown hg3 (by omega) hwx.size)
    have x0 := hX3.c0
    have y0 := hX3.froz 0
    have wr1 := HWR.out
    go_wp2_with fail
    have hX4 : Boxed (w3.setCell ⟨X, 0, none⟩ (.int .u32 p1.1)) X p1.1 ⟨#[]⟩ ⟨#[]⟩ := heap_setCell_same w3 X 0 _ 24 _ hX3
    have hR4 := hR3.keep (heap_setCell_other w3 ⟨X, 0, none⟩ _ (.int .u32 p1.1) (by simp; omega))
    have hq4 : RS (w3.setCell ⟨X, 0, none⟩ (.int .u32 p1.1)) g d' p1.2 := setX hq3 (by omega) (by omega)
    have hw4 := below_set hw3 (Nat.le_of_lt hRl) (b := X) (j := 0) (.int .u32 p1.1)
    clear hX1 hRx hwx hX3 hR3 hq3 hg3 x0 y0 wr1 hqx hq hw1 hR1
    generalize w3.setCell ⟨X, 0, none⟩ (.int .u32 p1.1) = w4 at *
    refine (ht1.out g d' w4 hq4).mono ?_
    rintro e w5 ⟨rfl, hq5, hg5⟩
    have hX5 := hX4.keep (hg5.block _ hX4.lt (fun e => by cases e; omega))
    have hR5 := hR4.keep (hg5.block _ hR4.lt (fun e => by cases e; omega))
    have hw5 : Below w.heap.size w w5 := hw4.trans (below_of_grown hg5 (by omega) hw4.size)
    have x1 := hX5.c1
    have y1 := hX5.froz 1
    go_wp2_with fail
    have hX6 : Boxed (w5.setCell ⟨X, 1, none⟩ (.string (str8 p2.1))) X p1.1 (str8 p2.1) ⟨#[]⟩ := heap_setCell_same w5 X 1 _ 24 _ hX5
    have hR6 := hR5.keep (heap_setCell_other w5 ⟨X, 1, none⟩ _ (.string (str8 p2.1)) (by simp; omega))
    have hq6 : RS (w5.setCell ⟨X, 1, none⟩ (.string (str8 p2.1))) g d' p2.2 := setX hq5 (by omega) (by omega)
    have hw6 := below_set hw5 (Nat.le_of_lt hRl) (b := X) (j := 1) (.string (str8 p2.1))
    clear hX4 hR4 hq4 hw4 hX5 hR5 hq5 hg5 x1 y1
    generalize w5.setCell ⟨X, 1, none⟩ (.string (str8 p2.1)) = w6 at *
    refine (ht2.out g d' w6 hq6).mono ?_
    rintro e w7 ⟨rfl, hq7, hg7⟩
    have hX7 := hX6.keep (hg7.block _ hX6.lt (fun e => by cases e; omega))
    have hR7 := hR6.keep (hg7.block _ hR6.lt (fun e => by cases e; omega))
    have hw7 : Below w.heap.size w w7 := hw6.trans (below_of_grown hg7 (by omega) hw6.size)
    have x2 := hX7.c2
    have y2 := hX7.froz 2
    go_wp2_with fail
    have hX8 : Boxed (w7.setCell ⟨X, 2, none⟩ (.string (str8 p3.1))) X p1.1 (str8 p2.1) (str8 p3.1) := heap_setCell_same w7 X 2 _ 24 _ hX7
    have hR8 := hR7.keep (heap_setCell_other w7 ⟨X, 2, none⟩ _ (.string (str8 p3.1)) (by simp; omega))
    have hq8 : RS (w7.setCell ⟨X, 2, none⟩ (.string (str8 p3.1))) g d' (some rest) := setX hq7 (by omega) (by omega)
    have hw8 := below_set hw7 (Nat.le_of_lt hRl) (b := X) (j := 2) (.string (str8 p3.1))
    clear hX6 hR6 hq6 hw6 hX7 hR7 hq7 hg7 x2 y2
    generalize w7.setCell ⟨X, 2, none⟩ (.string (str8 p3.1)) = w8 at *
    refine (bad_no g d' rest w8 hq8).mono ?_
    rintro e w8' ⟨rfl, rfl⟩
    have x0 := hX8.c0
    have x1 := hX8.c1
    have x2 := hX8.c2
    go_wp2_with fail
    refine (hck.out _).mono ?_
    rintro e W ⟨rfl, hb9⟩
    have hR9 := hR8.below hb9 hR8.lt
    have hw9 := hw8.trans (hb9.mono hw8.size)
    clear x0 x1 x2 hX8 hR8 hq8 hw8 hb9
    have r5 := heap_setCell_same W w.heap.size 0 _ 24 (.int .u32 0) hR9
    have r6 := heap_setCell_same _ w.heap.size 1 _ 24 (.string ⟨#[]⟩) r5
    have r7 := heap_setCell_same _ w.heap.size 2 _ 24 (.string ⟨#[]⟩) r6
    have HR := Lib.hid r7
    have k0 := hR9.c0
    have k1 := hR9.c1
    have k2 := hR9.c2
    have f0 := hR9.froz 0
    have f1 := hR9.froz 1
    have f2 := hR9.froz 2
    clear r5 r6 r7
    go_wp2_with fail
    (try simp only [Exit.inBlock, Exit.then])
    exact bodyPost_ret (results_cell_tmp2 rfl _ _ w.heap.size 24 _ (0, 0) _ rfl HR.out Tryd.underlying24 rfl (by kernel_rfl)) rfl ⟨rfl, below_set (below_set (below_set hw9 (Nat.le_refl _) _) (Nat.le_refl _) _) (Nat.le_refl _) _⟩

set_option maxHeartbeats 4000000 in
set_option maxRecDepth 100000 in
theorem get_ok (A : Option Addr) (c d : Nat) (b : List UInt8) (w : World) (hv : Shows w d (.slice A b.length c) b) (hb : b.length ≤ 140737488355328) (rest : List UInt8) (n : Nat) (hn : (gx3 (b.take 516)).2 = some rest) (hnr : n + rest.length = (b.take 516).length) (hm : mayX (str8 (gx2 (b.take 516)).1) (str8 (gx3 (b.take 516)).1)) :
    Calls Tryd.prog 21 #[.slice A b.length c] w fun e w' => e = .returned (.tuple #[xidV (gx1 (b.take 516)).1 (str8 (gx2 (b.take 516)).1) (str8 (gx3 (b.take 516)).1), .int .i64 n, .int .i64 0]) ∧ Below w.heap.size w w' := by
  obtain ⟨F, hFe⟩ : ∃ F, F = b.take 516 := ⟨_, rfl⟩
  rw [← hFe] at hn hm hnr ⊢
  have hFl : F.length ≤ 516 := by rw [hFe]; simp; omega
  obtain ⟨_, hc1, hc2⟩ := hv.lens
  have hsh : Shows w d (.slice A F.length c) F := by
    rw [hFe]
    by_cases h : 516 ≤ b.length
    · exact hv.head_ h
    · rw [List.take_of_length_le (by omega)]; exact hv
  have hs0 : lenS (some F) ≤ 140737488355328 := by simp only [lenS]; omega
  have hs1 : lenS (gx1 F).2 ≤ 140737488355328 := Nat.le_trans (numS_lenS _ _) hs0
  have hs2 : lenS (gx2 F).2 ≤ 140737488355328 := Nat.le_trans (textS_lenS _ _ _) hs1
  have hopen := Lib.hid (fun v w (h : Shows w d v F) => open_any v F d w h (by omega))
  have hnum := Lib.hid (fun g d w (h : RS w g d (some F)) => num_any g d (some F) 4 w h hs0)
  have ht1 := Lib.hid (fun g d w (h : RS w g d (gx1 F).2) => text_any g d (gx1 F).2 1 255 w h hs1 (by omega) (by omega))
  have ht2 := Lib.hid (fun g d w (h : RS w g d (gx2 F).2) => text_any g d (gx2 F).2 1 255 w h hs2 (by omega) (by omega))
  rw [show numS 4 (some F) = gx1 F from rfl] at hnum
  rw [show textS 1 255 (gx1 F).2 = gx2 F from rfl] at ht1
  rw [show textS 1 255 (gx2 F).2 = gx3 F from rfl, hn] at ht2
  have hx : (gx1 F).1 < 4294967296 := numS4_lt _
  have hck := Lib.hid (fun w => check_ok (gx1 F).1 (str8 (gx2 F).1) (str8 (gx3 F).1) w hm)
  have HNR := Lib.hid hnr
  clear hm hnr
  unfold xidV at *
  generalize gx1 F = p1 at *
  generalize gx2 F = p2 at *
  generalize gx3 F = p3 at *
  clear hs0 hs1 hs2
  have wr1 : IntKind.u32.wrap (p1.1 : Int) = (p1.1 : Int) := by rw [IntKind.wrap_u32]; omega
  have HFE : (516 < b.length ∧ F.length = 516) ∨ (b.length ≤ 516 ∧ F.length = b.length) := by
    rw [hFe]
    rcases Nat.lt_or_ge 516 b.length with h | h
    · left; exact ⟨h, by simp; omega⟩
    · right; exact ⟨h, by rw [List.take_of_length_le h]⟩
  have HWR := Lib.hid wr1
  clear hFe wr1 hFl hn
  rcases HFE with ⟨h516, hfl⟩ | ⟨h516, hfl⟩
  case' inl => have t516 : (516 : Int) < (b.length : Int) := by omega
  case' inr => have t516 : ¬ (516 : Int) < (b.length : Int) := by omega
  all_goals
    rw [hfl] at hsh
    have HFL := Lib.hid hfl
    clear hfl
    go_enter Tryd.func21, Tryd.ntmps21
    go_wp2_with fail
    refine (hopen.out _ _ (hsh.keep (by simp) fun hp => Below.heap_alloc _ _ _ (hsh.lt hp))).mono ?_
    rintro e w1 ⟨g, d', rfl, hq, hg, ⟨_, hdg⟩, hb1⟩
    have hgl : w.heap.size < g := by simp at hg; omega
    have hglt : g < w1.heap.size := hq.lt
    have hR1 : Boxed w1 w.heap.size 0 ⟨#[]⟩ ⟨#[]⟩ := (Boxed.new w).below hb1 (by simp)
    have hw1 : Below w.heap.size w w1 := (below_box w _).trans (hb1.mono (by simp))
    clear hb1 hg hsh
    go_wp2_with fail
    have hqx : RS (w1.alloc (Obj.cells #[.int .u32 0, .string ⟨#[]⟩, .string ⟨#[]⟩] 24)) g d' (some F) := hq.keep (by simp) (Below.heap_alloc w1 _ _ hglt) (fun hd => Below.heap_alloc w1 _ _ hd)
    have hX1 : Boxed (w1.alloc (Obj.cells #[.int .u32 0, .string ⟨#[]⟩, .string ⟨#[]⟩] 24)) w1.heap.size 0 ⟨#[]⟩ ⟨#[]⟩ := Boxed.new w1
    have hRx : Boxed (w1.alloc (Obj.cells #[.int .u32 0, .string ⟨#[]⟩, .string ⟨#[]⟩] 24)) w.heap.size 0 ⟨#[]⟩ ⟨#[]⟩ := hR1.keep (Below.heap_alloc w1 _ _ hR1.lt)
    have hwx : Below w.heap.size w (w1.alloc (Obj.cells #[.int .u32 0, .string ⟨#[]⟩, .string ⟨#[]⟩] 24)) := hw1.alloc hw1.size _
    have hRl := hR1.lt
    generalize w1.alloc (Obj.cells #[.int .u32 0, .string ⟨#[]⟩, .string ⟨#[]⟩] 24) = w2 at *
    generalize w1.heap.size = X at *
    refine (hnum.out g d' w2 hqx).mono ?_
    rintro e w3 ⟨rfl, hq3, hg3⟩
    have hX3 := hX1.keep (hg3.block _ hX1.lt (fun e => by cases e; omega))
    have hR3 := hRx.keep (hg3.block _ hRx.lt (fun e => by cases e; omega))
    have hw3 : Below w.heap.size w w3 := hwx.trans (below_of_grown hg3 (by omega) hwx.size)
    have x0 := hX3.c0
    have y0 := hX3.froz 0
    have wr1 := HWR.out
    go_wp2_with fail
    have hX4 : Boxed (w3.setCell ⟨X, 0, none⟩ (.int .u32 p1.1)) X p1.1 ⟨#[]⟩ ⟨#[]⟩ := heap_setCell_same w3 X 0 _ 24 _ hX3
    have hR4 := hR3.keep (heap_setCell_other w3 ⟨X, 0, none⟩ _ (.int .u32 p1.1) (by simp; omega))
    have hq4 : RS (w3.setCell ⟨X, 0, none⟩ (.int .u32 p1.1)) g d' p1.2 := setX hq3 (by omega) (by omega)
    have hw4 := below_set hw3 (Nat.le_of_lt hRl) (b := X) (j := 0) (.int .u32 p1.1)
    clear hX1 hRx hwx hX3 hR3 hq3 hg3 x0 y0 wr1 hqx hq hw1 hR1
    generalize w3.setCell ⟨X, 0, none⟩ (.int .u32 p1.1) = w4 at *
    refine (ht1.out g d' w4 hq4).mono ?_
    rintro e w5 ⟨rfl, hq5, hg5⟩
    have hX5 := hX4.keep (hg5.block _ hX4.lt (fun e => by cases e; omega))
    have hR5 := hR4.keep (hg5.block _ hR4.lt (fun e => by cases e; omega))
    have hw5 : Below w.heap.size w w5 := hw4.trans (below_of_grown hg5 (by omega) hw4.size)
    have x1 := hX5.c1
    have y1 := hX5.froz 1
    go_wp2_with fail
    have hX6 : Boxed (w5.setCell ⟨X, 1, none⟩ (.string (str8 p2.1))) X p1.1 (str8 p2.1) ⟨#[]⟩ := heap_setCell_same w5 X 1 _ 24 _ hX5
    have hR6 := hR5.keep (heap_setCell_other w5 ⟨X, 1, none⟩ _ (.string (str8 p2.1)) (by simp; omega))
    have hq6 : RS (w5.setCell ⟨X, 1, none⟩ (.string (str8 p2.1))) g d' p2.2 := setX hq5 (by omega) (by omega)
    have hw6 := below_set hw5 (Nat.le_of_lt hRl) (b := X) (j := 1) (.string (str8 p2.1))
    clear hX4 hR4 hq4 hw4 hX5 hR5 hq5 hg5 x1 y1
    generalize w5.setCell ⟨X, 1, none⟩ (.string (str8 p2.1)) = w6 at *
    refine (ht2.out g d' w6 hq6).mono ?_
    rintro e w7 ⟨rfl, hq7, hg7⟩
    have hX7 := hX6.keep (hg7.block _ hX6.lt (fun e => by cases e; omega))
    have hR7 := hR6.keep (hg7.block _ hR6.lt (fun e => by cases e; omega))
    have hw7 : Below w.heap.size w w7 := hw6.trans (below_of_grown hg7 (by omega) hw6.size)
    have x2 := hX7.c2
    have y2 := hX7.froz 2
    go_wp2_with fail
    have hX8 : Boxed (w7.setCell ⟨X, 2, none⟩ (.string (str8 p3.1))) X p1.1 (str8 p2.1) (str8 p3.1) := heap_setCell_same w7 X 2 _ 24 _ hX7
    have hR8 := hR7.keep (heap_setCell_other w7 ⟨X, 2, none⟩ _ (.string (str8 p3.1)) (by simp; omega))
    have hq8 : RS (w7.setCell ⟨X, 2, none⟩ (.string (str8 p3.1))) g d' (some rest) := setX hq7 (by omega) (by omega)
    have hw8 := below_set hw7 (Nat.le_of_lt hRl) (b := X) (j := 2) (.string (str8 p3.1))
    clear hX6 hR6 hq6 hw6 hX7 hR7 hq7 hg7 x2 y2
    generalize w7.setCell ⟨X, 2, none⟩ (.string (str8 p3.1)) = w8 at *
    have hnr : n + rest.length = F.length := HNR.out
    have hfl := HFL.out
    refine (bad_no g d' rest w8 hq8).mono ?_
    rintro e w8' ⟨rfl, rfl⟩
    have x0 := hX8.c0
    have x1 := hX8.c1
    have x2 := hX8.c2
    have HTS : Hid ((b.length ≤ 516 → (b.length : Int) - (rest.length : Int) = (n : Int)) ∧ (516 < b.length → (516 : Int) - (rest.length : Int) = (n : Int))) := Lib.hid ⟨fun h => by omega, fun h => by omega⟩
    clear hnr hfl
    go_wp2_with fail
    refine (hck.out _).mono ?_
    rintro e w9 ⟨rfl, hb9⟩
    have hR9 := hR8.below hb9 hR8.lt
    have hX9 := hX8.below hb9 hX8.lt
    have hq9 : RS w9 g d' (some rest) := hq8.keep hb9.size (hb9.block g hq8.lt) (fun h => hb9.block d' h)
    have hw9 := hw8.trans (hb9.mono hw8.size)
    clear x0 x1 x2 hX8 hR8 hq8 hw8 hb9
    have hleft := Lib.hid (fun w (h : RS w g d' (some rest)) => left_some g d' rest w h)
    have x0 := hX9.c0
    have x1 := hX9.c1
    have x2 := hX9.c2
    have k0 := hR9.c0
    have k1 := hR9.c1
    have k2 := hR9.c2
    have f0 := hR9.froz 0
    have f1 := hR9.froz 1
    have f2 := hR9.froz 2
    have x0' : w9.drew.cell? ⟨X, 0, none⟩ = _ := x0
    have x1' : w9.drew.cell? ⟨X, 1, none⟩ = _ := x1
    have x2' : w9.drew.cell? ⟨X, 2, none⟩ = _ := x2
    have k0' : w9.drew.cell? ⟨w.heap.size, 0, none⟩ = _ := k0
    have k1' : w9.drew.cell? ⟨w.heap.size, 1, none⟩ = _ := k1
    have k2' : w9.drew.cell? ⟨w.heap.size, 2, none⟩ = _ := k2
    have hq9' : RS w9.drew g d' (some rest) := hq9.keep (Nat.le_refl _) rfl (fun _ => rfl)
    have hne : X ≠ w.heap.size := by omega
    have r5 := heap_setCell_same w9.drew w.heap.size 0 _ 24 (.int .u32 p1.1) hR9
    have r6 := heap_setCell_same _ w.heap.size 1 _ 24 (.string (str8 p2.1)) r5
    have r7 := heap_setCell_same _ w.heap.size 2 _ 24 (.string (str8 p3.1)) r6
    have HR := Lib.hid r7
    have i2 : IntKind.i64.wrap (n : Int) = (n : Int) := i64_id _ (by have := HFL.out; have := HNR.out; omega) (by have := HFL.out; have := HNR.out; omega)
    first
      | (have i1 := HTS.out.1 h516)
      | (have i1 := HTS.out.2 h516)
    clear r5 r6 r7 hR9 hX9 h516
    go_wp2_with fail
    go_region_law (first
      | (go_simp; go_at_call 43
         refine (hleft.out _ (by first | exact hq9' | exact hq9'.keep (Nat.le_refl _) rfl (fun _ => rfl))).mono ?_
         rintro e wl ⟨rfl, rfl⟩))
    all_goals
      go_wp2_with fail
      (try simp only [Exit.inBlock, Exit.then])
      exact bodyPost_ret (results_cell_tmp2 rfl _ _ w.heap.size 24 _ (0, 0) _ rfl HR.out Tryd.underlying24 rfl (by kernel_rfl)) rfl ⟨rfl, below_set (below_set (below_set (below_drew1 hw9) (Nat.le_refl _) _) (Nat.le_refl _) _) (Nat.le_refl _) _⟩

end Go.Proofs.YtalcfglcbpkebaaDoor
