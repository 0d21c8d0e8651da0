/-
  The ring's add and remove of the program.
  Conditions: none but sizes.
-/
import Derived.Test.YtknfiiacalfelaaCrB
import Derived.LaidEqlPtr
namespace Go.Proofs.Ytknfiiacalfelaa
open Go.RowKit Go.Shelf
set_option linter.unusedVariables false
set_option linter.unusedSimpArgs false
set_option maxRecDepth 100000

section
variable {w w' : World} {B qb rb mb sv : Nat} {X : List ST} {F : Nat → Prop} {s : CP}
theorem SeatC.anyset {b : Nat} {t : Tg} {c : Nat} (h : SeatC w b t c) (a i : Nat) (z : Option Addr) (hi : i = 2 ∨ i = 3) : SeatC (w.setCell ⟨a, i, none⟩ (.pointer z)) b t c := by
  by_cases e : a = b
  · subst e
    rcases hi with rfl | rfl
    · exact h.set2 z
    · exact h.set3 z
  · exact h.keep (Below.heap_setCell _ _ _ _ (by show b ≠ a; exact fun h => e h.symm))
theorem RingC.anyset (h : RingC w rb sv) (a i : Nat) (z : Option Addr) (hi : i = 2 ∨ i = 3) : RingC (w.setCell ⟨a, i, none⟩ (.pointer z)) rb sv := by
  by_cases e : a = rb
  · subst e
    rcases hi with rfl | rfl
    · exact h.set2 z
    · exact h.set3 z
  · exact h.keep (Below.heap_setCell _ _ _ _ (by show rb ≠ a; exact fun h => e h.symm))
theorem heap_setO {w : World} {k a i : Nat} (v : Value) (hk : k ≠ a) : (w.setCell ⟨a, i, none⟩ v).heap[k]? = w.heap[k]? := Below.heap_setCell _ _ _ _ (by show k ≠ a; exact hk)
theorem cell_setS {w : World} {a i : Nat} {u : Value} (v : Value) (h : w.cell? ⟨a, i, none⟩ = some u) : (w.setCell ⟨a, i, none⟩ v).cell? ⟨a, i, none⟩ = some v := World.cell?_setCell_same' _ _ _ (by rw [h]; rfl)
theorem cell_setB {w : World} {a b i j : Nat} (v : Value) (h : b ≠ a) : (w.setCell ⟨a, i, none⟩ v).cell? ⟨b, j, none⟩ = w.cell? ⟨b, j, none⟩ := World.cell?_setCell_other _ _ _ _ (by intro e; injection e with e _ _; exact h e.symm)
theorem Chn.lastC {rb : Nat} {l : List Nat} (h : Chn w (rb :: (l ++ [rb]))) : ∃ pre p, rb :: l = pre ++ [p] ∧ Chn w (pre ++ [p]) ∧ lkC w p rb := by
  obtain ⟨pre, p, e⟩ : ∃ pre p, rb :: l = pre ++ [p] := ⟨(rb :: l).dropLast, (rb :: l).getLast (by simp), (List.dropLast_concat_getLast (by simp)).symm⟩
  refine ⟨pre, p, e, ?_⟩
  have e2 : rb :: (l ++ [rb]) = pre ++ p :: [rb] := by rw [← List.cons_append, e]; simp
  rw [e2, Chn.append] at h
  exact ⟨h.1, h.2.1⟩
/-- A node's block. -/
def IsNode (w : World) (a : Nat) : Prop := ∃ c ty, w.heap[a]? = some (.cells c ty (0, 0))
theorem SeatC.node {b : Nat} {t : Tg} {c : Nat} (h : SeatC w b t c) : IsNode w b := by obtain ⟨x, y, h⟩ := h; exact ⟨_, _, h⟩
theorem RingC.node (h : RingC w rb sv) : IsNode w rb := by obtain ⟨x, y, h⟩ := h; exact ⟨_, _, h⟩
theorem seat_info : ∃ j, Try.prog.info? 64 = some j ∧ j.size ≠ 0 := by
  have h : (Try.prog.info? 64).map (·.size) = some 4 := by kernel_rfl
  cases e : Try.prog.info? 64 with
  | none => rw [e] at h; cases h
  | some j => rw [e] at h; simp at h; exact ⟨j, rfl, by omega⟩
theorem node_eql (w : World) (a : Nat) : (binOp .eql 59 (nodeV a) (nodeV a)).run Try.prog w = .ok (.bool true) w := by
  obtain ⟨j, hj, _⟩ := seat_info
  exact run_eql_ptr_same w _ Try.underlying59 hj
theorem node_eql_ne {a b : Nat} (ha : IsNode w a) (hb : IsNode w b) (hne : a ≠ b) : (binOp .eql 59 (nodeV a) (nodeV b)).run Try.prog w = .ok (.bool false) w := by
  obtain ⟨j, hj, h0⟩ := seat_info
  obtain ⟨_, _, h1⟩ := ha
  obtain ⟨_, _, h2⟩ := hb
  exact run_eql_ptr_other w Try.underlying59 hj h0 (by intro e; injection e with e _ _; exact hne e) h1 h2
theorem node_neq (w : World) (a : Nat) : (binOp .neq 59 (nodeV a) (nodeV a)).run Try.prog w = .ok (.bool false) w := by
  obtain ⟨j, hj, _⟩ := seat_info
  have h : ∀ d : Nat, (Op.equalIn (d + 1) 59 (nodeV a) (nodeV a)).run Try.prog w = .ok true w := fun d => by
    simp [Op.equalIn, nodeV, run_underlying Try.underlying59, sizeOf, typeInfo, hj, run_sameAddr_same]
  unfold nodeV at h ⊢
  simp only [binOp]
  simp [Op.equal, Op.maxDepth, h 9999]
theorem node_neq_ne {a b : Nat} (ha : IsNode w a) (hb : IsNode w b) (hne : a ≠ b) : (binOp .neq 59 (nodeV a) (nodeV b)).run Try.prog w = .ok (.bool true) w := by
  obtain ⟨j, hj, h0⟩ := seat_info
  obtain ⟨_, _, h1⟩ := ha
  obtain ⟨_, _, h2⟩ := hb
  have h : ∀ d : Nat, (Op.equalIn (d + 1) 59 (nodeV a) (nodeV b)).run Try.prog w = .ok false w := fun d => by
    simp [Op.equalIn, nodeV, run_underlying Try.underlying59, sizeOf, typeInfo, hj, h0, run_sameAddr_other w (a := ⟨a, 0, none⟩) (b := ⟨b, 0, none⟩) (by intro e; injection e with e _ _; exact hne e) h1 h2]
  unfold nodeV at h ⊢
  simp only [binOp]
  simp [Op.equal, Op.maxDepth, h 9999]
/-- The world behind the ring's add. -/
def addedW (w : World) (rb sb p : Nat) : World := ((((w.setCell ⟨sb, 2, none⟩ (nodeV p)).setCell ⟨sb, 3, none⟩ (nodeV rb)).drew.setCell ⟨p, 3, none⟩ (nodeV sb)).setCell ⟨rb, 2, none⟩ (nodeV sb)).drew
set_option maxHeartbeats 1000000 in
theorem radd_any {sb p : Nat} {u2 u3 v3 : Value} (c2 : w.cell? ⟨rb, 2, none⟩ = some (nodeV p)) (hr : RingC w rb sv) (fp : w.frozen? ⟨p, 3, none⟩ = false) (cp : w.cell? ⟨p, 3, none⟩ = some v3) (s2 : w.cell? ⟨sb, 2, none⟩ = some u2) (s3 : w.cell? ⟨sb, 3, none⟩ = some u3)
    (fs2 : w.frozen? ⟨sb, 2, none⟩ = false) (fs3 : w.frozen? ⟨sb, 3, none⟩ = false) (n1 : sb ≠ rb) (n2 : sb ≠ p) : Calls Try.prog 25 #[.pointer (some ⟨rb, 0, none⟩), .pointer (some ⟨sb, 0, none⟩)] w fun e w' => e = .returned (.tuple #[]) ∧ w' = addedW w rb sb p := by
  obtain ⟨W1, hW1⟩ : ∃ W1, W1 = ((w.setCell ⟨sb, 2, none⟩ (nodeV p)).setCell ⟨sb, 3, none⟩ (nodeV rb)).drew := ⟨_, rfl⟩
  have a2 : W1.cell? ⟨sb, 2, none⟩ = some (nodeV p) := by rw [hW1]; exact (cell_other23 sb (by decide)).trans (cell_setS _ s2)
  have a3 : W1.cell? ⟨sb, 3, none⟩ = some (nodeV rb) := by rw [hW1]; exact cell_setS _ ((cell_other23 sb (by decide)).trans s3)
  have a4 : W1.cell? ⟨p, 3, none⟩ = some v3 := by rw [hW1]; exact (cell_setB _ n2.symm).trans ((cell_setB _ n2.symm).trans cp)
  have a5 : W1.cell? ⟨rb, 2, none⟩ = some (nodeV p) := by rw [hW1]; exact (cell_setB _ n1.symm).trans ((cell_setB _ n1.symm).trans c2)
  have a6 : W1.frozen? ⟨p, 3, none⟩ = false := by rw [hW1]; show ((w.setCell _ _).setCell _ _).frozen? _ = false; rw [World.frozen?_setCell, World.frozen?_setCell]; exact fp
  have a7 : W1.frozen? ⟨rb, 2, none⟩ = false := by rw [hW1]; show ((w.setCell _ _).setCell _ _).frozen? _ = false; rw [World.frozen?_setCell, World.frozen?_setCell]; exact hr.fr 2
  have HW1 := Lib.hid hW1
  have HF : Hid (addedW w rb sb p = ((W1.setCell ⟨p, 3, none⟩ (nodeV sb)).setCell ⟨rb, 2, none⟩ (nodeV sb)).drew) := Lib.hid (by rw [hW1]; rfl)
  have fs3' : (w.setCell ⟨sb, 2, none⟩ (nodeV p)).frozen? ⟨sb, 3, none⟩ = false := by rw [World.frozen?_setCell]; exact fs3
  rw [HF.out]
  clear hW1 hr fp cp n1 n2
  unfold nodeV at *
  go_enter Try.func25, Try.ntmps25
  go_wp2_with fail
  go_region
  rw [← HW1.out]
  clear c2 s2 s3 fs2 fs3 fs3'
  go_wp2_with fail
  go_region
  first | go_end0 | refine bodyPost_ret (results_none rfl _ _ _) rfl ?_
  exact ⟨rfl, rfl⟩

/-- The world behind the ring's remove. -/
def removedW (w : World) (p q : Nat) : World := ((w.setCell ⟨p, 3, none⟩ (nodeV q)).setCell ⟨q, 2, none⟩ (nodeV p)).drew
set_option maxHeartbeats 1000000 in
theorem rremove_other {b p q : Nat} {v3 v2 : Value} (hr : RingC w rb sv) (hsv : sv ≠ b) (hn1 : IsNode w sv) (hn2 : IsNode w b) (b2 : w.cell? ⟨b, 2, none⟩ = some (nodeV p)) (b3 : w.cell? ⟨b, 3, none⟩ = some (nodeV q)) (fp : w.frozen? ⟨p, 3, none⟩ = false) (fq : w.frozen? ⟨q, 2, none⟩ = false) (cp : w.cell? ⟨p, 3, none⟩ = some v3) (cq : w.cell? ⟨q, 2, none⟩ = some v2) :
    Calls Try.prog 27 #[.pointer (some ⟨rb, 0, none⟩), .pointer (some ⟨b, 0, none⟩)] w fun e w' => e = .returned (.tuple #[]) ∧ w' = removedW w p q := by
  have c4 := hr.c4
  have fq' : (w.setCell ⟨p, 3, none⟩ (nodeV q)).frozen? ⟨q, 2, none⟩ = false := by rw [World.frozen?_setCell]; exact fq
  have hne := node_eql_ne hn1 hn2 hsv
  clear hn1 hn2 hsv
  unfold removedW
  clear hr
  unfold nodeV at *
  go_enter Try.func27, Try.ntmps27
  go_wp2_with fail
  go_region
  first | go_end0 | refine bodyPost_ret (results_none rfl _ _ _) rfl ?_
  exact ⟨rfl, rfl⟩
set_option maxHeartbeats 1000000 in
theorem rremove_served {b p q : Nat} {v3 v2 : Value} (hr : RingC w rb b) (b2 : w.cell? ⟨b, 2, none⟩ = some (nodeV p)) (b3 : w.cell? ⟨b, 3, none⟩ = some (nodeV q)) (hbr : b ≠ rb) (fp : w.frozen? ⟨p, 3, none⟩ = false) (fq : w.frozen? ⟨q, 2, none⟩ = false) (cp : w.cell? ⟨p, 3, none⟩ = some v3) (cq : w.cell? ⟨q, 2, none⟩ = some v2) :
    Calls Try.prog 27 #[.pointer (some ⟨rb, 0, none⟩), .pointer (some ⟨b, 0, none⟩)] w fun e w' => e = .returned (.tuple #[]) ∧ w' = removedW (w.setCell ⟨rb, 4, none⟩ (nodeV p)) p q := by
  have c4 := hr.c4
  have f4 := hr.fr 4
  have heq := node_eql w b
  obtain ⟨W1, hW1⟩ : ∃ W1, W1 = w.setCell ⟨rb, 4, none⟩ (nodeV p) := ⟨_, rfl⟩
  have a2 : W1.cell? ⟨b, 2, none⟩ = some (nodeV p) := by rw [hW1]; exact (cell_setB _ hbr).trans b2
  have a3 : W1.cell? ⟨b, 3, none⟩ = some (nodeV q) := by rw [hW1]; exact (cell_setB _ hbr).trans b3
  have a4 : W1.cell? ⟨p, 3, none⟩ = some v3 := by rw [hW1]; exact (cell_other23 p (by decide)).trans cp
  have a5 : W1.cell? ⟨q, 2, none⟩ = some v2 := by rw [hW1]; exact (cell_other23 q (by decide)).trans cq
  have a6 : W1.frozen? ⟨p, 3, none⟩ = false := by rw [hW1, World.frozen?_setCell]; exact fp
  have a7 : W1.frozen? ⟨q, 2, none⟩ = false := by rw [hW1, World.frozen?_setCell]; exact fq
  have fq' : (W1.setCell ⟨p, 3, none⟩ (nodeV q)).frozen? ⟨q, 2, none⟩ = false := by rw [World.frozen?_setCell]; exact a7
  rw [← hW1]
  have HW1 := Lib.hid hW1
  unfold removedW
  clear hr hW1 hbr fp fq cp cq b3
  unfold nodeV at *
  go_enter Try.func27, Try.ntmps27
  go_wp2_with fail
  rw [← HW1.out]
  clear c4 f4 b2
  go_region
  first | go_end0 | refine bodyPost_ret (results_none rfl _ _ _) rfl ?_
  exact ⟨rfl, rfl⟩
end

end Go.Proofs.Ytknfiiacalfelaa
