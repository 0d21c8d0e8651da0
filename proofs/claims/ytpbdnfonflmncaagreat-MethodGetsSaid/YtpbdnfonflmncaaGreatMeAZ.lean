/-
  Texts, together: MeA, MeB.
  Conditions: none but sizes.
-/
import Derived.Test.YtpbdnfonflmncaaGreatMeSZ
import Derived.Test.YtpbdnfonflmncaaGreatPZ
set_option linter.unusedVariables false
set_option linter.unusedSimpArgs false
namespace Go.Proofs.YtpbdnfonflmncaaGreat
open Go.RowKit
set_option maxRecDepth 100000 in
set_option maxHeartbeats 4000000 in
theorem shapes_any (k : Nat) (w : World) : Calls Tryz.prog 49 #[.int .u8 k] w fun e w' => ∃ v, e = .returned v ∧ OwnG shapeC 70 w' w.heap.size v (shapesD k) ∧ Below w.heap.size w w' := by
 by_cases h1 : k = 1
 ·subst h1
  go_enter Tryz.func49, Tryz.ntmps49
  go_wp2_with fail
  go_ret
  exact ⟨_, rfl, OwnG.lit (shapesD 1) (by rfl) (by decide) (Nat.le_refl _), (Below.refl _ _).alloc (Nat.le_refl _) _⟩
 by_cases h2 : k = 2
 ·subst h2
  go_enter Tryz.func49, Tryz.ntmps49
  go_wp2_with fail
  go_ret
  exact ⟨_, rfl, OwnG.lit (shapesD 2) (by rfl) (by decide) (Nat.le_refl _), (Below.refl _ _).alloc (Nat.le_refl _) _⟩
 by_cases h3 : k = 3
 ·subst h3
  go_enter Tryz.func49, Tryz.ntmps49
  go_wp2_with fail
  go_ret
  exact ⟨_, rfl, OwnG.lit (shapesD 3) (by rfl) (by decide) (Nat.le_refl _), (Below.refl _ _).alloc (Nat.le_refl _) _⟩
 by_cases h4 : k = 4
 ·subst h4
  go_enter Tryz.func49, Tryz.ntmps49
  go_wp2_with fail
  go_ret
  exact ⟨_, rfl, OwnG.lit (shapesD 4) (by rfl) (by decide) (Nat.le_refl _), (Below.refl _ _).alloc (Nat.le_refl _) _⟩
 by_cases h5 : k = 5
 ·subst h5
  go_enter Tryz.func49, Tryz.ntmps49
  go_wp2_with fail
  go_ret
  exact ⟨_, rfl, OwnG.lit (shapesD 5) (by rfl) (by decide) (Nat.le_refl _), (Below.refl _ _).alloc (Nat.le_refl _) _⟩
 by_cases h6 : k = 6
 ·subst h6
  go_enter Tryz.func49, Tryz.ntmps49
  go_wp2_with fail
  go_ret
  exact ⟨_, rfl, OwnG.lit (shapesD 6) (by rfl) (by decide) (Nat.le_refl _), (Below.refl _ _).alloc (Nat.le_refl _) _⟩
 by_cases h8 : k = 8
 ·subst h8
  go_enter Tryz.func49, Tryz.ntmps49
  go_wp2_with fail
  go_ret
  exact ⟨_, rfl, OwnG.lit (shapesD 8) (by rfl) (by decide) (Nat.le_refl _), (Below.refl _ _).alloc (Nat.le_refl _) _⟩
 have e1 : ((k : Int) == 1) = false := by simp; omega
 have e2 : ((k : Int) == 2) = false := by simp; omega
 have e3 : ((k : Int) == 3) = false := by simp; omega
 have e4 : ((k : Int) == 4) = false := by simp; omega
 have e5 : ((k : Int) == 5) = false := by simp; omega
 have e6 : ((k : Int) == 6) = false := by simp; omega
 have e8 : ((k : Int) == 8) = false := by simp; omega
 have hs : shapesD k = [] := by unfold shapesD; split <;> first | contradiction | rfl
 rw [hs]
 clear hs h1 h2 h3 h4 h5 h6 h8
 go_enter Tryz.func49, Tryz.ntmps49
 go_wp2_with fail
 go_ret
 exact ⟨_, rfl, OwnG.nil_ _ _ _ _, Below.refl _ _⟩
theorem find_clo (bb co : Nat) (s : Shape) (w : World) (hc : w.cell? ⟨bb, 0, none⟩ = some (.int .u8 co)) (hlt : bb < w.heap.size) :
  Calls Tryz.prog 51 #[.agg #[.int .u8 s.co, .string s.word, .string s.kinds], .pointer (some ⟨bb, 0, none⟩)] w fun e w' => e = .returned (.bool (s.co == co)) ∧ Below w.heap.size w w' := by
 have cx : ∀ o, (w.alloc o).cell? ⟨bb, 0, none⟩ = some (.int .u8 co) := fun o => by rw [World.cell?_alloc_lt _ _ _ hlt]; exact hc
 obtain ⟨r, hr⟩ : ∃ r, r = (s.co == co) := ⟨_, rfl⟩
 have e : (((s.co : Nat) : Int) == ((co : Nat) : Int)) = r := by rw [hr, Bool.eq_iff_iff]; simp only [beq_iff_eq]; omega
 rw [← hr]
 clear hr
 go_enter Tryz.func51, Tryz.ntmps51
 go_wp2_with fail
 go_ret
 exact ⟨rfl, (Below.refl _ _).alloc (Nat.le_refl _) _⟩
def m_idxD (l : List Shape) (co : Nat) (r : Int) : Prop := (r = -1 ∧ l.find? (fun s => s.co == co) = none) ∨ ∃ j : Nat, ∃ h : j < l.length, r = (j : Int) ∧ l.find? (fun s => s.co == co) = some l[j]
theorem find_first {l : List Shape} {co j : Nat} (hj : j < l.length) (hlo : ∀ q (h' : q < l.length), q < j → (l[q].co == co) = false) (hx : (l[j].co == co) = true) : l.find? (fun s => s.co == co) = some l[j] := by
 rw [List.find?_eq_some_iff_getElem]
 exact ⟨hx, j, hj, rfl, fun q hq => by rw [hlo q (by omega) hq]; rfl⟩
set_option maxRecDepth 100000 in
set_option maxHeartbeats 2000000 in
theorem index_shapes (bb co : Nat) (l : List Shape) (A : Option Addr) (c d : Nat) (w : World) (hl : ShowsG shapeC w d (.slice A l.length c) l) (hm : l.length ≤ 1000) (hc : w.cell? ⟨bb, 0, none⟩ = some (.int .u8 co)) (hlt : bb < w.heap.size) :
  Calls Tryz.prog 50 #[.slice A l.length c, .func (.func 51) #[] #[.pointer (some ⟨bb, 0, none⟩)]] w fun e w' => ∃ r : Int, e = .returned (.int .i64 r) ∧ m_idxD l co r ∧ Below w.heap.size w w' := by
 have HF := Lib.hid (fun s w' (hb : Below w.heap.size w w') => find_clo bb co s w' ((hb.cell (p := ⟨bb, 0, none⟩) hlt).trans hc) (by have := hb.size; omega))
 clear hc
 go_enter Tryz.func50, Tryz.ntmps50
 go_wp2_with fail
 go_loopw [8] (fun i wr => ∃ j : Nat, j ≤ l.length ∧ i = .int .i64 j ∧ Below w.heap.size w wr ∧ ∀ q (h' : q < l.length), q < j → (l[q].co == co) = false) (fun i _ => l.length - (intOf i).toNat)
 case atStart => exact ⟨0, by omega, rfl, Below.refl _ _, fun q _ h => absurd h (by omega)⟩
 case round =>
  obtain ⟨j, hj, rfl, hb, hlo⟩ := hrel
  rename World => wj
  by_cases hltj : j < l.length
  ·obtain ⟨o, rfl, hd, hcl⟩ := (hl.below' hb (Nat.le_refl _)).at_ (by omega)
   obtain ⟨e0, e1, e2⟩ := shape_cell hcl hltj
   have hjl : (j : Int) < (l.length : Int) := by omega
   have hc := HF.out l[j] wj hb
   clear hcl
   cases hp : (l[j].co == co) with
   | true =>
    have hfin := find_first hltj hlo hp
    rw [hp] at hc
    have HC := Lib.hid hc
    have HFI := Lib.hid hfin
    clear hc hlo hp hfin
    go_wp2_with fail
    refine HC.out.mono ?_
    rintro e wx ⟨rfl, hx⟩
    go_wp2_with fail
    go_ret
    exact ⟨(j : Int), rfl, .inr ⟨j, hltj, rfl, HFI.out⟩, hb.trans (hx.mono hb.size)⟩
   | false =>
    rw [hp] at hc
    have HC := Lib.hid hc
    have HLO : Hid (∀ q (h' : q < l.length), q < j + 1 → (l[q].co == co) = false) := by
     show ∀ q (h' : q < l.length), q < j + 1 → (l[q].co == co) = false
     intro q hq hqj
     by_cases hqj2 : q < j
     ·exact hlo q hq hqj2
     ·obtain rfl : q = j := by omega
      exact hp
    clear hc hlo hp
    go_wp2_with fail
    refine HC.out.mono ?_
    rintro e wx ⟨rfl, hx⟩
    go_wp2_with fail
    go_roundw
    case rel => exact ⟨j + 1, by omega, by go_num, hb.trans (hx.mono hb.size), HLO.out⟩
    case measure => simp [intOf]; omega
  ·have hjl : ¬ (j : Int) < (l.length : Int) := by omega
   have hfin : l.find? (fun s => s.co == co) = none := by
    rw [List.find?_eq_none]
    intro x hx
    obtain ⟨q, hq, rfl⟩ := List.getElem_of_mem hx
    rw [hlo q hq (by omega)]
    simp
   have HFI := Lib.hid hfin
   clear hlo hfin
   go_wp2_with fail
   go_ret
   exact ⟨-1, rfl, .inl ⟨rfl, HFI.out⟩, hb⟩
def sh0 : Shape := ⟨0, ⟨#[]⟩, ⟨#[]⟩⟩
def BoxS (w : World) (b : Nat) (s : Shape) : Prop := w.heap[b]? = some (.cells #[.int .u8 s.co, .string s.word, .string s.kinds] 70 (0, 0))
theorem shapes_len (k : Nat) : (shapesD k).length ≤ 10 := by
 unfold shapesD
 split <;> simp
set_option maxRecDepth 100000 in
set_option maxHeartbeats 2000000 in
theorem mfind_any (k co : Nat) (w : World) : Calls Tryz.prog 25 #[.int .u8 k, .int .u8 co] w fun e w' => e = .returned (.tuple #[.agg #[.int .u8 ((m_findD k co).getD sh0).co, .string ((m_findD k co).getD sh0).word, .string ((m_findD k co).getD sh0).kinds], .bool (m_findD k co).isSome]) ∧ Below w.heap.size w w' := by
 have HS := Lib.hid (fun w => shapes_any k w)
 have HL := Lib.hid (shapes_len k)
 obtain ⟨r, hr⟩ : ∃ r, r = m_findD k co := ⟨_, rfl⟩
 rw [← hr]
 unfold m_findD at hr
 generalize shapesD k = L at *
 have HR := Lib.hid hr
 clear hr
 have hw1 : Below w.heap.size w ((w.alloc (Obj.cells #[.int .u8 co] 5)).alloc (Obj.cells #[.int .u8 0, .string ⟨#[]⟩, .string ⟨#[]⟩] 70)) := ((Below.refl _ _).alloc (Nat.le_refl _) _).alloc (by simp) _
 have hc1 : ((w.alloc (Obj.cells #[.int .u8 co] 5)).alloc (Obj.cells #[.int .u8 0, .string ⟨#[]⟩, .string ⟨#[]⟩] 70)).cell? ⟨w.heap.size, 0, none⟩ = some (.int .u8 co) := by
  rw [World.cell?_alloc_lt _ _ _ (by simp)]
  exact cell_of_row _ _ 0 _ 5 (0, 0) (heap_alloc_new w _)
 have hb1 : BoxS ((w.alloc (Obj.cells #[.int .u8 co] 5)).alloc (Obj.cells #[.int .u8 0, .string ⟨#[]⟩, .string ⟨#[]⟩] 70)) (w.heap.size + 1) sh0 := by
  have := heap_alloc_new (w.alloc (Obj.cells #[.int .u8 co] 5)) (Obj.cells #[.int .u8 0, .string ⟨#[]⟩, .string ⟨#[]⟩] 70)
  rw [World.size_alloc] at this
  exact this
 have hz1 : ((w.alloc (Obj.cells #[.int .u8 co] 5)).alloc (Obj.cells #[.int .u8 0, .string ⟨#[]⟩, .string ⟨#[]⟩] 70)).heap.size = w.heap.size + 1 + 1 := by simp
 go_enter Tryz.func25, Tryz.ntmps25
 go_wp2_with fail
 generalize (w.alloc (Obj.cells #[.int .u8 co] 5)).alloc (Obj.cells #[.int .u8 0, .string ⟨#[]⟩, .string ⟨#[]⟩] 70) = w1 at *
 refine (HS.out w1).mono ?_
 rintro e w2 ⟨v, rfl, ho, hb2⟩
 obtain ⟨g, hg0, hsh⟩ := ho.shows
 obtain ⟨A, c, rfl, _, _⟩ := hsh.form
 have hc2 : w2.cell? ⟨w.heap.size, 0, none⟩ = some (.int .u8 co) := (hb2.cell (p := ⟨w.heap.size, 0, none⟩) (by show w.heap.size < _; omega)).trans hc1
 have hx2 : BoxS w2 (w.heap.size + 1) sh0 := (hb2.block _ (by omega)).trans hb1
 have hB2 : Below w.heap.size w w2 := hw1.trans (hb2.mono (by omega))
 have hz2 := hb2.size
 have HI := Lib.hid (index_shapes w.heap.size co L A c g w2 hsh (by have := HL.out; omega) hc2 (by omega))
 have HP := Lib.hid (And.intro hx2 (And.intro hB2 hsh))
 clear hc2 hx2 hB2 hsh ho hb1 hc1 hw1
 go_wp2_with fail
 refine HI.out.mono ?_
 rintro e w3 ⟨i, rfl, hi, hb3⟩
 obtain ⟨hx2, hB2, hsh⟩ := HP.out
 have hx3 : BoxS w3 (w.heap.size + 1) sh0 := (hb3.block _ (by omega)).trans hx2
 have hB3 := hB2.trans (hb3.mono hB2.size)
 have hf : ∀ j, w3.frozen? ⟨w.heap.size + 1, j, none⟩ = false := fun j => frozen_of_row w3 (w.heap.size + 1) j _ 70 hx3
 have f0 := hf 0
 have f1 := hf 1
 have f2 := hf 2
 have c0 : w3.cell? ⟨w.heap.size + 1, 0, none⟩ = some (.int .u8 0) := cell_of_row w3 _ 0 _ 70 (0, 0) hx3
 have c1 : w3.cell? ⟨w.heap.size + 1, 1, none⟩ = some (.string ⟨#[]⟩) := cell_of_row w3 _ 1 _ 70 (0, 0) hx3
 have c2 : w3.cell? ⟨w.heap.size + 1, 2, none⟩ = some (.string ⟨#[]⟩) := cell_of_row w3 _ 2 _ 70 (0, 0) hx3
 rcases hi with ⟨rfl, hn⟩ | ⟨j, hj, rfl, hs⟩
 ·have hrn : r = none := HR.out.trans hn
  subst hrn
  have HX := Lib.hid (And.intro hx3 hB3)
  clear hx3 hB3 hsh hf HR hn HP
  go_wp2_with fail
  obtain ⟨hx3, hB3⟩ := HX.out
  refine bodyPost_ret (results_row_tmp rfl _ _ (w.heap.size + 1) 70 _ (0, 0) _ rfl (heap_setCell_same _ (w.heap.size + 1) 2 _ 70 _ (heap_setCell_same _ (w.heap.size + 1) 1 _ 70 _ (heap_setCell_same w3 (w.heap.size + 1) 0 _ 70 _ hx3))) Tryz.underlying70 rfl (by kernel_rfl)) rfl ?_
  exact ⟨rfl, ((hB3.setCell (by show _ ≤ w.heap.size + 1; omega) _).setCell (by show _ ≤ w.heap.size + 1; omega) _).setCell (by show _ ≤ w.heap.size + 1; omega) _⟩
 ·have hrn : r = some L[j] := HR.out.trans hs
  subst hrn
  obtain ⟨o, rfl, hd, hcl⟩ := (hsh.below' hb3 (Nat.le_refl _)).at_ (by omega)
  obtain ⟨e0, e1, e2⟩ := shape_cell hcl hj
  have hjl : (j : Int) < (L.length : Int) := by omega
  have hjn : ¬ (j : Int) < 0 := by omega
  have HX := Lib.hid (And.intro hx3 hB3)
  clear hx3 hB3 hsh hf HR hs HP hcl
  go_wp2_with fail
  obtain ⟨hx3, hB3⟩ := HX.out
  refine bodyPost_ret (results_row_tmp rfl _ _ (w.heap.size + 1) 70 _ (0, 0) _ rfl (heap_setCell_same _ (w.heap.size + 1) 2 _ 70 _ (heap_setCell_same _ (w.heap.size + 1) 1 _ 70 _ (heap_setCell_same w3 (w.heap.size + 1) 0 _ 70 _ hx3))) Tryz.underlying70 rfl (by kernel_rfl)) rfl ?_
  exact ⟨rfl, ((hB3.setCell (by show _ ≤ w.heap.size + 1; omega) _).setCell (by show _ ≤ w.heap.size + 1; omega) _).setCell (by show _ ≤ w.heap.size + 1; omega) _⟩
set_option maxRecDepth 100000 in
theorem kinds_any (k co : Nat) (w : World) : Calls Tryz.prog 15 #[.int .u8 k, .int .u8 co] w fun e w' => e = .returned (.tuple #[.string ((m_findD k co).getD sh0).kinds, .bool (m_findD k co).isSome]) ∧ Below w.heap.size w w' := by
 have HF := Lib.hid (mfind_any k co)
 generalize (m_findD k co).isSome = b at *
 generalize (m_findD k co).getD sh0 = s at *
 go_enter Tryz.func15, Tryz.ntmps15
 go_wp2_with fail
 refine (HF.out _).mono ?_
 rintro e w1 ⟨rfl, hb⟩
 have hb1 : Below w.heap.size w w1 := hb
 go_wp2_with fail
 go_ret2
 exact ⟨rfl, hb1.alloc hb1.size _⟩
def nameD (k : Nat) (s : Shape) : ByteArray := wordD k ++ ⟨#[46]⟩ ++ s.word
end Go.Proofs.YtpbdnfonflmncaaGreat
