/-
  Texts, together: MeY, MeXT.
  Conditions: none but sizes.
-/
import Derived.Test.YtpbdnfonflmncaaGreatMePZ
import Derived.Test.YtpbdnfonflmncaaGreatMeUCZ
set_option linter.unusedVariables false
set_option linter.unusedSimpArgs false
namespace Go.Proofs.YtpbdnfonflmncaaGreat
open Go.RowKit
def row0 : RowT := ⟨0, 0, ⟨#[]⟩, ⟨#[]⟩⟩
def rowV (r : RowT) : Value := .agg #[.int .u8 r.cl, .int .u8 r.co, .string r.name, .string r.kinds]
def BoxW (w : World) (b : Nat) (r : RowT) : Prop := w.heap[b]? = some (.cells #[.int .u8 r.cl, .int .u8 r.co, .string r.name, .string r.kinds] 64 (0, 0))
theorem BoxW.lt {w : World} {b : Nat} {r : RowT} (h : BoxW w b r) : b < w.heap.size := (Array.getElem?_eq_some_iff.1 h).1
theorem BoxW.kept {w w' : World} {b B : Nat} {r : RowT} (h : BoxW w b r) (hb : Below B w w') (hB : w.heap.size ≤ B) : BoxW w' b r := (hb.block b (Nat.lt_of_lt_of_le h.lt hB)).trans h
theorem BoxW.fr {w : World} {b : Nat} {r : RowT} (h : BoxW w b r) (i : Nat) : w.frozen? ⟨b, i, none⟩ = false := frozen_of_row w b i _ 64 h
theorem BoxW.cells {w : World} {b : Nat} {r : RowT} (h : BoxW w b r) : w.cell? ⟨b, 0, none⟩ = some (.int .u8 r.cl) ∧ w.cell? ⟨b, 1, none⟩ = some (.int .u8 r.co) ∧ w.cell? ⟨b, 2, none⟩ = some (.string r.name) ∧ w.cell? ⟨b, 3, none⟩ = some (.string r.kinds) :=
 ⟨cell_of_row w b 0 _ 64 (0, 0) h, cell_of_row w b 1 _ 64 (0, 0) h, cell_of_row w b 2 _ 64 (0, 0) h, cell_of_row w b 3 _ 64 (0, 0) h⟩
theorem set4_rowW {w : World} {p : Nat} {a b c v a' b' c' v' : Value} (h : w.heap[p]? = some (.cells #[a', b', c', v'] 64 (0, 0))) :
  ((((w.setCell ⟨p, 0, none⟩ a).setCell ⟨p, 1, none⟩ b).setCell ⟨p, 2, none⟩ c).setCell ⟨p, 3, none⟩ v).heap[p]? = some (.cells #[a, b, c, v] 64 (0, 0)) :=
 heap_setCell_same _ p 3 _ 64 _ (heap_setCell_same _ p 2 _ 64 _ (heap_setCell_same _ p 1 _ 64 _ (heap_setCell_same w p 0 _ 64 _ h)))
theorem set4_belowW {B p : Nat} {w0 w : World} {a b c v : Value} (h : Below B w0 w) (hp : B ≤ p) : Below B w0 ((((w.setCell ⟨p, 0, none⟩ a).setCell ⟨p, 1, none⟩ b).setCell ⟨p, 2, none⟩ c).setCell ⟨p, 3, none⟩ v) := (((h.setCell hp _).setCell hp _).setCell hp _).setCell hp _
theorem rfirst {α : Type} {l : List α} {P : α → Bool} {j : Nat} (hj : j < l.length) (hlo : ∀ q (h' : q < l.length), q < j → P l[q] = false) (hx : P l[j] = true) : l.find? P = some l[j] := by
 rw [List.find?_eq_some_iff_getElem]
 exact ⟨hx, j, hj, rfl, fun q hq => by rw [hlo q (by omega) hq]; rfl⟩
theorem rnone {α : Type} {l : List α} {P : α → Bool} (hlo : ∀ q (h' : q < l.length), P l[q] = false) : l.find? P = none := by
 rw [List.find?_eq_none]
 intro x hx
 obtain ⟨q, hq, rfl⟩ := List.getElem_of_mem hx
 rw [hlo q hq]
 simp
def TableSaid : Prop := ∀ w, Calls Tryz.prog 41 #[] w fun e w' => ∃ v, e = .returned v ∧ OwnG rowC 64 w' w.heap.size v tabD ∧ Below w.heap.size w w'
set_option maxRecDepth 100000 in
set_option maxHeartbeats 4000000 in
theorem rfind_any (HT0 : TableSaid) (cl co : Nat) (w : World) : Calls Tryz.prog 23 #[.int .u8 cl, .int .u8 co] w fun e w' =>
  e = .returned (.tuple #[rowV (((m_findD cl co).map (rowOf cl co)).getD row0), .bool (m_findD cl co).isSome]) ∧ Below w.heap.size w w' := by
 have HT := Lib.hid HT0
 unfold TableSaid at HT
 clear HT0
 obtain ⟨O, hO⟩ : ∃ O, O = tabD.find? (fun r => r.cl == cl && r.co == co) := ⟨_, rfl⟩
 have hf := tab_find cl co
 rw [← hO] at hf
 have hs : (m_findD cl co).isSome = O.isSome := by rw [hf, Option.isSome_map]
 rw [hs, ← hf]
 have hlen := tab_len
 clear hf hs
 generalize tabD = L at *
 have HO := Lib.hid hO
 have HLEN := Lib.hid hlen
 clear hO hlen
 have hx := heap_alloc_new w (Obj.cells #[.int .u8 0, .int .u8 0, .string ⟨#[]⟩, .string ⟨#[]⟩] 64)
 have hx : BoxW (w.alloc (Obj.cells #[.int .u8 0, .int .u8 0, .string ⟨#[]⟩, .string ⟨#[]⟩] 64)) w.heap.size row0 := hx
 have hb := below_box w (Obj.cells #[.int .u8 0, .int .u8 0, .string ⟨#[]⟩, .string ⟨#[]⟩] 64)
 go_enter Tryz.func23, Tryz.ntmps23
 go_upto_region 1 with fail
 generalize w.alloc (Obj.cells #[.int .u8 0, .int .u8 0, .string ⟨#[]⟩, .string ⟨#[]⟩] 64) = W at *
 go_wp2_with fail
 with_reducible refine (HT.out W).mono ?_
 rintro e w1 ⟨v, rfl, ho, hb1⟩
 obtain ⟨g, hg0, hsh⟩ := ho.shows
 obtain ⟨A, c, rfl, _, _⟩ := hsh.form
 have hx1 := hx.kept hb1 (Nat.le_refl _)
 have hB1 : Below w.heap.size w w1 := hb.trans (hb1.mono hb.size)
 obtain ⟨c0, c1, c2, c3⟩ := hx1.cells
 have f0 := hx1.fr 0
 have f1 := hx1.fr 1
 have f2 := hx1.fr 2
 have f3 := hx1.fr 3
 have HX := Lib.hid (And.intro hx1 hB1)
 have HSH := Lib.hid hsh
 clear ho hb1 hx hb hsh hx1 hB1 HT
 go_wp2_with fail
 go_loopw [7] (fun i wr => ∃ j : Nat, j ≤ L.length ∧ i = .int .i64 j ∧ wr = w1 ∧ Hid (∀ q (h' : q < L.length), q < j → (L[q].cl == cl && L[q].co == co) = false)) (fun i _ => L.length - (intOf i).toNat)
 case atStart => exact ⟨0, by omega, rfl, rfl, Lib.hid fun q _ h => absurd h (by omega)⟩
 case round =>
  obtain ⟨j, hj, rfl, rfl, hlo⟩ := hrel
  rename World => w1
  by_cases hlt : j < L.length
  ·have hjl : (j : Int) < (L.length : Int) := by omega
   have hj9 : j < 1000 := by have := HLEN.out; omega
   obtain ⟨o, rfl, hd, hcl⟩ := HSH.out.at_ (by omega)
   obtain ⟨e0, e1, e2, e3⟩ := row_cell hcl hlt
   have hyes : (L[j].cl == cl && L[j].co == co) = true → O = some L[j] := fun h => HO.out.trans (rfirst hlt hlo.out h)
   have hnext : (L[j].cl == cl && L[j].co == co) = false → ∀ q (h' : q < L.length), q < j + 1 → (L[q].cl == cl && L[q].co == co) = false := fun h q hq hqj => by
    by_cases h2 : q < j
    ·exact hlo.out q hq h2
    ·obtain rfl : q = j := by omega
     exact h
   have HY := Lib.hid hyes
   have HN := Lib.hid hnext
   clear hcl hyes hnext
   generalize L[j] = row at *
   obtain ⟨rc, ro, rn, rk⟩ := row
   simp only [] at *
   have hA : ((rc : Int) == (cl : Int)) = (rc == cl) := by rw [Bool.eq_iff_iff]; simp only [beq_iff_eq]; omega
   have hB : ((ro : Int) == (co : Int)) = (ro == co) := by rw [Bool.eq_iff_iff]; simp only [beq_iff_eq]; omega
   generalize (rc == cl) = a at *
   generalize (ro == co) = b at *
   cases hab : (a && b) with
   | true =>
    rw [hab] at HY
    simp only [Bool.and_eq_true] at hab
    obtain ⟨rfl, rfl⟩ := hab
    obtain rfl := HY.out rfl
    clear HN HY
    go_wp2_with fail
    refine bodyPost_ret (results_row_tmp rfl _ _ w.heap.size 64 _ (0, 0) _ rfl (set4_rowW HX.out.1) Tryz.underlying64 rfl (by kernel_rfl)) rfl ?_
    exact ⟨rfl, set4_belowW HX.out.2 (Nat.le_refl _)⟩
   | false =>
    have hn := HN.out hab
    have HN2 := Lib.hid hn
    clear hn HN HY
    have hways : a = false ∨ (a = true ∧ b = false) := by revert hab; cases a <;> cases b <;> simp
    clear hab
    rcases hways with rfl | ⟨rfl, rfl⟩
    ·go_wp2_with fail
     go_roundw
     case rel => exact ⟨j + 1, by omega, by go_num, by first | trivial | rfl, HN2⟩
     case measure => simp [intOf]; omega
    ·go_wp2_with fail
     go_roundw
     case rel => exact ⟨j + 1, by omega, by go_num, by first | trivial | rfl, HN2⟩
     case measure => simp [intOf]; omega
  ·have hjl : ¬ (j : Int) < (L.length : Int) := by omega
   have hfin := HO.out.trans (rnone fun q hq => hlo.out q hq (by omega))
   subst hfin
   clear hlo
   go_wp2_with fail
   refine bodyPost_ret (results_row_tmp rfl _ _ w.heap.size 64 _ (0, 0) _ rfl (set4_rowW HX.out.1) Tryz.underlying64 rfl (by kernel_rfl)) rfl ?_
   exact ⟨rfl, set4_belowW HX.out.2 (Nat.le_refl _)⟩
set_option maxRecDepth 100000 in
set_option maxHeartbeats 4000000 in
theorem table_any (w : World) : Calls Tryz.prog 41 #[] w fun e w' => ∃ v, e = .returned v ∧ OwnG rowC 64 w' w.heap.size v tabD ∧ Below w.heap.size w w' := by
 go_enter Tryz.func41, Tryz.ntmps41
 go_wp2_with fail
 refine wp_build65 90 64 44 _ rfl (rowC.all tabD).toArray (.agg #[.int .u8 0, .int .u8 0, .string ⟨#[]⟩, .string ⟨#[]⟩]) Tryz.underlying90 (by kernel_rfl) (by kernel_rfl) (by decide) (by decide) (by kernel_rfl) ?_
 go_wp2_with fail
 go_ret
 exact ⟨_, rfl, OwnG.lit tabD (by rfl) (by decide) (Nat.le_refl _), (Below.refl _ _).alloc (Nat.le_refl _) _⟩
end Go.Proofs.YtpbdnfonflmncaaGreat
