/-
  The program's Turn.
  Conditions: none but sizes.
-/
import Derived.Test.YtknfiiacalfelaaCrR
import Derived.Test.YtknfiiacalfelaaLift
import Derived.StillTailTactics
import Derived.Deep.CutRange
import Derived.Deep.CutBlock
import Derived.Deep.DeepCutAuto
import Derived.Sort.CutIn
namespace Go.Proofs.Ytknfiiacalfelaa
open Go.RowKit Go.Shelf
set_option linter.unusedVariables false
set_option linter.unusedSimpArgs false
set_option maxRecDepth 100000
attribute [local go_sem] Oper.semAt_some

section
variable {w w' : World} {B qb rb mb sv : Nat} {X : List ST} {F : Nat → Prop} {s : CP}
/-- What a turn that serves x has left: results in two boxes, the seat's credit, who was served. -/
structure TurnS (w : World) (B qb rb mb n z : Nat) (X : List ST) (s : CP) (x : ST) (W : World) : Prop where
  ci : ∃ A D, X = A ++ x :: D ∧ CI W B qb rb mb x.b (A ++ ⟨x.t, usedC x.c, x.b⟩ :: D) ⟨updA x.t usedC s.l, x.t⟩
  mv : MovedQ (FC qb rb mb X) w W
  r1 : W.heap[n + 1]? = some (.cells #[.string (str8 x.t)] 9 (0, 0))
  r2 : W.heap[n + 1 + 1]? = some (.cells #[.bool true] 4 (0, 0))
  sz : z ≤ W.heap.size
theorem find_serv {pre : List { x : ST // x ∈ X }} {may : List Tg} {L : List ST} {x : { x : ST // x ∈ X }} (h : ∀ y ∈ pre, mayC may (tcS y.1) = false) (hx : mayC may (tcS x.1) = true) (hp : ∃ r, L = (pre ++ [x]).map (·.1) ++ r) : (L.map tcS).find? (mayC may) = some (tcS x.1) := by
  obtain ⟨r, rfl⟩ := hp
  rw [List.map_append, List.map_append, List.map_append, List.find?_append, List.find?_append]
  have : (List.map tcS (pre.map (·.1))).find? (mayC may) = none := by
    rw [List.find?_eq_none]
    intro y hy
    obtain ⟨z, hz, rfl⟩ := List.mem_map.1 hy
    obtain ⟨u, hu, rfl⟩ := List.mem_map.1 hz
    rw [h u hu]; simp
  rw [this]
  simp [hx]
theorem find_none' {pre : List { x : ST // x ∈ X }} {may : List Tg} (h : ∀ y ∈ pre, mayC may (tcS y.1) = false) : ((pre.map (·.1)).map tcS).find? (mayC may) = none := by
  rw [List.find?_eq_none]
  intro y hy
  obtain ⟨z, hz, rfl⟩ := List.mem_map.1 hy
  obtain ⟨u, hu, rfl⟩ := List.mem_map.1 hz
  rw [h u hu]; simp
theorem ownFrom_turn {β : Type} {z n0 : Nat} {w5 : World} (G : β → Prop) (Q : β → World → Prop) (hz : n0 ≤ z) : OwnFrom z (fun (pre : β) W => G pre ∧ ∃ W0, Q pre W0 ∧ Below n0 W0 W ∧ n0 ≤ W.heap.size) :=
  fun s W W' row ⟨hg, W0, hq, hb, hs⟩ hgr hr => ⟨hg, W0, hq, hb.grown hgr hs (fun k e => by have := (hr k e).1; omega), Nat.le_trans hs hgr.size⟩
end
section
variable {w w' : World} {B qb rb mb sv : Nat} {X : List ST} {F : Nat → Prop} {s : CP}
set_option maxHeartbeats 4000000 in
theorem turn_any (h : CW w B qb s F) (hB : B ≤ w.heap.size) (A : Option Addr) (c d : Nat) (may : List Tg) (hs : ShowsG strC w d (.slice A may.length c) may) (hl : ∀ t ∈ may, t.length ≤ 140737488355328) (hn : may.length ≤ 1000000) :
    Calls Try.prog 15 #[.pointer (some ⟨qb, 0, none⟩), .slice A may.length c] w fun e w' => e = .returned (.tuple #[.string (str8 (s.turn may).1.1), .bool (s.turn may).1.2]) ∧ LeftC w B qb F (s.turn may).2 w' := by
  obtain ⟨ho, rb, mb, sv, X, h1, hF⟩ := (show CW w B qb s F from h)
  obtain ⟨w1, hw1⟩ : ∃ w1, w1 = ((w.alloc (.cells #[.pointer (some ⟨qb, 0, none⟩)] 23)).alloc (.cells #[.string ⟨#[]⟩] 9)).alloc (.cells #[.bool false] 4) := ⟨_, rfl⟩
  obtain ⟨n, hn0⟩ : ∃ n, n = w.heap.size := ⟨_, rfl⟩
  have hb1 : Below w.heap.size w w1 := by rw [hw1]; exact (((Below.refl _ _).alloc (Nat.le_refl _) _).alloc (by simp) _).alloc (by simp; omega) _
  have hsz1 : w1.heap.size = n + 1 + 1 + 1 := by rw [hw1, hn0]; simp
  have x0 : w1.heap[n]? = some (.cells #[.pointer (some ⟨qb, 0, none⟩)] 23 (0, 0)) := by
    rw [hw1, hn0]; exact (heap_alloc_old _ _ (by simp; omega)).trans ((heap_alloc_old _ _ (by simp)).trans (heap_alloc_new w _))
  have x1 : w1.heap[n + 1]? = some (.cells #[.string ⟨#[]⟩] 9 (0, 0)) := by
    rw [hw1, hn0, ← World.size_alloc w (Obj.cells #[.pointer (some ⟨qb, 0, none⟩)] 23)]
    exact (heap_alloc_old _ _ (by simp)).trans (heap_alloc_new _ _)
  have x2 : w1.heap[n + 1 + 1]? = some (.cells #[.bool false] 4 (0, 0)) := by
    rw [hw1, hn0, ← World.size_alloc w (Obj.cells #[.pointer (some ⟨qb, 0, none⟩)] 23), ← World.size_alloc _ (Obj.cells #[.string ⟨#[]⟩] 9)]
    exact heap_alloc_new _ _
  have c0 : w1.cell? ⟨n, 0, none⟩ = some (.pointer (some ⟨qb, 0, none⟩)) := by rw [cell_of_row _ _ _ _ _ (0, 0) x0]; rfl
  have h1' := h1.below hb1
  have HM := Lib.hid ((made_box h1'.box).mono fun e w' hx => (show e = .returned (.bool true) ∧ w1 = w' from ⟨hx.1, hx.2.symm⟩))
  have HSO := Lib.hid (setOf_any w1 A c d may (hs.below' hb1 (Nat.le_refl _)) hl hn)
  have HW1 := Lib.hid hw1
  refine (callsIn_wide (n := 0)).1 (callsIn_of_wp_marks Try.func15 rfl trivial ?_ rfl)
  simp only [Try.ntmps15, List.size_toArray, List.length_cons, List.length_nil, Nat.reduceAdd, Nat.reduceSub, Array.replicate_succ, Array.replicate_zero, List.push_toArray, List.append_toArray, List.nil_append, List.cons_append]
  refine wpIn_wide.2 ?_
  go_upto_region 1 with fail
  rw [← HW1.out, ← hn0]
  have HN0 := Lib.hid hn0
  have HSZ1 := Lib.hid hsz1
  have HB1 := Lib.hid hb1
  have HF0 : Hid (∀ k, FC qb rb mb X k → k < n) := Lib.hid fun k hk => by rw [hn0]; exact (h1.foot k hk).2
  have HSAME := Lib.hid h
  clear hw1 hn0 hsz1 hb1 h h1 hs
  go_upto_region 4 with (first
    | (go_at_call 23; refine HM.out.mono ?_; rintro e w5 ⟨rfl, rfl⟩)
    | (go_at_call 30; refine HSO.out.mono ?_; rintro e w2 ⟨mb2, rfl, hmb2, hset, hb2⟩))
  obtain ⟨w3, hw3⟩ : ∃ w3, w3 = w2.alloc (.cells #[.map (some mb2)] 71) := ⟨_, rfl⟩
  have hb3 : Below w1.heap.size w1 w3 := by rw [hw3]; exact hb2.alloc hb2.size _
  have h3 := h1'.below hb3
  have hsz2 := hb2.size
  obtain ⟨m, hm⟩ : ∃ m, m = w2.heap.size := ⟨_, rfl⟩
  have y0 : w3.heap[n]? = some (.cells #[.pointer (some ⟨qb, 0, none⟩)] 23 (0, 0)) := (hb3.block n (by rw [HSZ1.out]; omega)).trans x0
  have y1 : w3.heap[n + 1]? = some (.cells #[.string ⟨#[]⟩] 9 (0, 0)) := (hb3.block (n + 1) (by rw [HSZ1.out]; omega)).trans x1
  have y2 : w3.heap[n + 1 + 1]? = some (.cells #[.bool false] 4 (0, 0)) := (hb3.block (n + 1 + 1) (by rw [HSZ1.out]; omega)).trans x2
  have y3 : w3.heap[m]? = some (.cells #[.map (some mb2)] 71 (0, 0)) := by rw [hw3, hm]; exact heap_alloc_new _ _
  have hs3 : SetS w3 mb2 may := hset.keep (by rw [hw3]; exact heap_alloc_old _ _ hset.lt)
  have hsz3 : w3.heap.size = m + 1 := by rw [hw3, hm]; simp
  have hmm : mb2 < m := by rw [hm]; exact hset.lt
  have hnm : n + 1 + 1 + 1 ≤ m := by rw [hm, ← HSZ1.out]; exact hsz2
  rw [← hw3, ← hm]
  have HW3 := Lib.hid hw3
  have HM2 := Lib.hid hm
  clear hw3 hm hsz2 hset hb2 c0 HM HSO
  have c0 : w3.cell? ⟨n, 0, none⟩ = some (.pointer (some ⟨qb, 0, none⟩)) := by rw [cell_of_row _ _ _ _ _ (0, 0) y0]; rfl
  have c1 : w3.cell? ⟨qb, 0, none⟩ = some (.pointer (some ⟨rb, 0, none⟩)) := h3.box.c0
  have c2 : w3.cell? ⟨rb, 4, none⟩ = some (.pointer (some ⟨sv, 0, none⟩)) := h3.ring.c4
  have HBE := Lib.hid (fun w => behind_any rb sv w)
  have HH3 := Lib.hid h3
  have HSZ3 := Lib.hid hsz3
  have HX := Lib.hid (And.intro x0 (And.intro x1 x2))
  have HY := Lib.hid (And.intro y0 (And.intro y1 (And.intro y2 y3)))
  have H1' := Lib.hid h1'
  have HB3 := Lib.hid hb3
  clear h3 hsz3 x0 x1 x2 y0 y1 y2 y3 h1' hb3
  go_still_tail 11, (by kernel_rfl)
  change wpList _ _ _ _ _ w3.drew
  go_wp2_with (go_at_call 31; refine (HBE.out _).mono ?_; rintro e w5 ⟨rfl, hw5⟩; have HW5 := Lib.hid hw5; clear hw5)
  have hw5 := HW5.out
  obtain ⟨N, hN⟩ : ∃ N, N = m + 1 + 1 + 1 := ⟨_, rfl⟩
  have hsz5 : w5.heap.size = N := by rw [hw5, World.size_alloc, World.size_alloc, show w3.drew.heap.size = w3.heap.size from rfl, HSZ3.out, hN]
  have hb5 : Below w3.heap.size w3 w5 := by
    rw [hw5]
    exact ((below_drew1 (Below.refl w3.heap.size w3)).alloc (Nat.le_refl _) _).alloc (by simp) _
  have k5 : ∀ k, k < m + 1 → w5.heap[k]? = w3.heap[k]? := fun k hk => hb5.block k (by rw [HSZ3.out]; exact hk)
  have g5 : w5.heap[m + 1]? = some (.cells #[nodeV rb] 52 (0, 0)) := by
    have := heap_alloc_new w3.drew (.cells #[nodeV rb] 52)
    rw [show w3.drew.heap.size = m + 1 from HSZ3.out] at this
    rw [hw5]
    exact (heap_alloc_old _ _ (by rw [World.size_alloc, show w3.drew.heap.size = m + 1 from HSZ3.out]; omega)).trans this
  have q5 : w5.heap[m + 1 + 1]? = some (.cells #[nodeV sv] 59 (0, 0)) := by
    have := heap_alloc_new (w3.drew.alloc (.cells #[nodeV rb] 52)) (.cells #[nodeV sv] 59)
    rw [World.size_alloc, show w3.drew.heap.size = m + 1 from HSZ3.out] at this
    rw [hw5]
    exact this
  have h5 := HH3.out.below hb5
  obtain ⟨U, V, hrot⟩ := h5.rot ho
  have hseq := h5.stops 4 hrot hsz5 (gb := m + 1) (xb := m + 1 + 1) (by rw [cell_of_row _ _ _ _ _ (0, 0) g5]; rfl) (by rw [cell_of_row _ _ _ _ _ (0, 0) q5]; rfl) (by omega) (by omega)
  clear hw5
  refine (wpIn_wide (n := 5)).1 ?_
  rw [HSZ3.out]
  refine' wpIn_rangeFunc_ownF rfl (by decide) (gf := 36) (lb := #[.pointer (some ⟨m + 1 + 1, 0, none⟩), .pointer (some ⟨m + 1, 0, none⟩)]) rfl trivial (enters_of Try.func36 (by kernel_rfl) rfl)
    hseq keepK_t (keepK_b (fun k hk => by rw [hsz5]; exact hk)) (Below.refl _ _) (fun _ => rfl)
    (fun pre W => (∀ y ∈ pre, mayC may (tcS y.1) = false) ∧ Below w5.heap.size w5 W)
    (fun cc pre W => (cc = .ret ∧ ∃ p x, pre = p ++ [x] ∧ (∀ y ∈ p, mayC may (tcS y.1) = false) ∧ mayC may (tcS x.1) = true) ∧ ∃ W0, (∃ p x, pre = p ++ [x] ∧ TurnS w B qb rb mb n N X s x.1 W0) ∧ Below N W0 W ∧ N ≤ W.heap.size)
    (OwnFrom.and (Own.from (fun s A B row hs hg hr => hs) _) (ownFrom_below (Nat.le_refl _) (Nat.le_refl _)))
    (fun cc => ownFrom_turn (w5 := w5) _ _ (by rw [hsz5]; exact Nat.le_refl _))
    ⟨by simp, Below.refl _ _⟩ _ ?assign ?body ?done ?stop
  case assign =>
    intro l x W K hK
    gi_wp2
    exact hK
  case body =>
    obtain ⟨y0, y1, y2, y3⟩ := HY.out
    rintro l pre ⟨x, hx⟩ W ⟨hp, hBW⟩ _
    have hbw := hBW
    rw [hsz5] at hbw
    have kW : ∀ k, k < m + 1 → W.heap[k]? = w3.heap[k]? := fun k hk => (hbw.block k (by omega)).trans (k5 k hk)
    have hCI := h5.below hBW
    have hS := hCI.seat x hx
    have hset5 : SetS W mb2 may := hs3.keep (kW mb2 (by omega))
    have e0 : W.cell? ⟨m, 0, none⟩ = some (.map (some mb2)) := by rw [cell_of_row _ _ _ _ _ (0, 0) ((kW m (by omega)).trans y3)]; rfl
    have e1 : W.cell? ⟨n, 0, none⟩ = some (.pointer (some ⟨qb, 0, none⟩)) := by rw [cell_of_row _ _ _ _ _ (0, 0) ((kW n (by omega)).trans y0)]; rfl
    have e2 : W.cell? ⟨qb, 0, none⟩ = some (.pointer (some ⟨rb, 0, none⟩)) := hCI.box.c0
    have e3 := hCI.ring.c4
    have e4 := hS.c0
    have e5 := hS.c1
    have hlk := fun (W' : World) (hk : W'.heap[mb2]? = W.heap[mb2]?) => (hset5.keep hk).look (t := x.t) (by have := (ho.tags (x.t, x.c) (by rw [h5.row]; exact List.mem_map.2 ⟨x, hx, rfl⟩)).2; have : x.t.length ≤ 40 := this; omega)
    have hWsz := hBW.size
    have hm3 : m + 1 ≤ W.heap.size := by omega
    have HSF : Hid (∀ w', KeepK (fun k => k < W.heap.size) W w' → w'.cell? ⟨m, 0, none⟩ = some (.map (some mb2)) ∧ w'.cell? ⟨x.b, 0, none⟩ = some (.string (str8 x.t)) ∧ (Instr.lookup 71 (.map (some mb2)) (.string (str8 x.t)) true).run Try.prog w' = .ok (.tuple #[.agg #[], .bool (decide (x.t ∈ may))]) w') := Lib.hid fun w' hk =>
      ⟨(cell_keepH (hk m (by show m < _; omega))).trans e0, (cell_keepH (hk x.b hS.lt)).trans e4, hlk w' (hk mb2 hset5.lt)⟩
    have HAL : Hid (KeepK (fun k => k < W.heap.size) W (W.alloc (.cells #[] 78)).drew) := Lib.hid fun k hk => heap_alloc_old _ _ hk
    have hfm : Try.prog.follows .mixedOrders = true := by kernel_rfl
    have HN := Lib.hid hN
    have HSZ5 := Lib.hid hsz5
    have hnd : nodeV (blX X ⟨x, hx⟩) = .pointer (some ⟨x.b, 0, none⟩) := rfl
    rw [hnd]
    clear hnd hN hsz5 hlk
    refine wpIn_block ?_
    refine wpIn_seq_k fun K hK => ?_
    refine wpIn_region_lift (S := KeepK (fun k => k < W.heap.size) W) hfm (by rintro ⟨_, _, h⟩; exact h) (by rfl) (fun k _ => rfl) (fun hSW => ?_)
    have HKK := Lib.hid hK
    clear hK
    refine wpAnyH_take (i := 0) (oi := { dst := some 29, op := Op.load 71 (Operand.tmp 6), type := 71, pos := "credit.go:100", after := #[], guard := none }) (v := ?_) rfl (by kernel_rfl) (by kernel_rfl) (by kernel_rfl) (fun _ _ _ h => h) (Or.inl ⟨by rfl, ?_⟩) (by assumption) ?_
    rotate_left
    · intro w9 hSw
      obtain ⟨g0, g1, g2⟩ := HSF.out w9 hSw
      go_simp
      try with_reducible rfl
    try simp only [Act.put, List.setIfInBounds_toArray, List.set_cons_zero, List.set_cons_succ]
    refine wpAnyH_take (i := 1) (oi := { dst := some 30, op := Op.move (Operand.tmp 7), type := 59, pos := "credit.go:100", after := #[], guard := none }) (v := ?_) rfl (by kernel_rfl) (by kernel_rfl) (by kernel_rfl) (fun _ _ _ h => h) (Or.inl ⟨by rfl, ?_⟩) (by assumption) ?_
    rotate_left
    · intro w9 hSw
      obtain ⟨g0, g1, g2⟩ := HSF.out w9 hSw
      go_simp
      try with_reducible rfl
    try simp only [Act.put, List.setIfInBounds_toArray, List.set_cons_zero, List.set_cons_succ]
    refine wpAnyH_take (i := 2) (oi := { dst := some 31, op := Op.nilCheck (Operand.tmp 30), type := 0, pos := "credit.go:100", after := #[{ on := 1, ground := Ground.data }], guard := none }) (v := ?_) rfl (by kernel_rfl) (by kernel_rfl) (by kernel_rfl) (fun _ _ _ h => h) (Or.inl ⟨by rfl, ?_⟩) (by assumption) ?_
    rotate_left
    · intro w9 hSw
      obtain ⟨g0, g1, g2⟩ := HSF.out w9 hSw
      go_simp
      try with_reducible rfl
    try simp only [Act.put, List.setIfInBounds_toArray, List.set_cons_zero, List.set_cons_succ]
    refine wpAnyH_take (i := 3) (oi := { dst := some 32, op := Op.fieldAddr 64 (Operand.tmp 31) 0, type := 0, pos := "credit.go:100", after := #[{ on := 2, ground := Ground.data }], guard := none }) (v := ?_) rfl (by kernel_rfl) (by kernel_rfl) (by kernel_rfl) (fun _ _ _ h => h) (Or.inl ⟨by rfl, ?_⟩) (by assumption) ?_
    rotate_left
    · intro w9 hSw
      obtain ⟨g0, g1, g2⟩ := HSF.out w9 hSw
      go_simp
      try with_reducible rfl
    try simp only [Act.put, List.setIfInBounds_toArray, List.set_cons_zero, List.set_cons_succ]
    refine wpAnyH_take (i := 4) (oi := { dst := some 33, op := Op.load 9 (Operand.tmp 32), type := 9, pos := "credit.go:100", after := #[{ on := 3, ground := Ground.data }], guard := none }) (v := ?_) rfl (by kernel_rfl) (by kernel_rfl) (by kernel_rfl) (fun _ _ _ h => h) (Or.inl ⟨by rfl, ?_⟩) (by assumption) ?_
    rotate_left
    · intro w9 hSw
      obtain ⟨g0, g1, g2⟩ := HSF.out w9 hSw
      go_simp
      try with_reducible rfl
    try simp only [Act.put, List.setIfInBounds_toArray, List.set_cons_zero, List.set_cons_succ]
    refine wpAnyH_take (i := 5) (oi := { dst := some 34, op := Op.lookup 71 (Operand.tmp 29) (Operand.tmp 33) true, type := 79, pos := "credit.go:100", after := #[{ on := 0, ground := Ground.data }, { on := 4, ground := Ground.data }], guard := none }) (v := ?_) rfl (by kernel_rfl) (by kernel_rfl) (by kernel_rfl) (fun _ _ _ h => h) (Or.inl ⟨by rfl, ?_⟩) (by assumption) ?_
    rotate_left
    · intro w9 hSw
      obtain ⟨g0, g1, g2⟩ := HSF.out w9 hSw
      go_simp
      try with_reducible rfl
    try simp only [Act.put, List.setIfInBounds_toArray, List.set_cons_zero, List.set_cons_succ]
    refine wpAnyH_take (i := 6) (oi := { dst := some 28, op := Op.move (Operand.tmp 34), type := 79, pos := "credit.go:100", after := #[{ on := 5, ground := Ground.data }], guard := none }) (v := ?_) rfl (by kernel_rfl) (by kernel_rfl) (by kernel_rfl) (fun _ _ _ h => h) (Or.inl ⟨by rfl, ?_⟩) (by assumption) ?_
    rotate_left
    · intro w9 hSw
      obtain ⟨g0, g1, g2⟩ := HSF.out w9 hSw
      go_simp
      try with_reducible rfl
    try simp only [Act.put, List.setIfInBounds_toArray, List.set_cons_zero, List.set_cons_succ]
    refine wpAnyH_take (i := 7) (oi := { dst := some 35, op := Op.extract (Operand.tmp 28) 0, type := 78, pos := "credit.go:100", after := #[{ on := 6, ground := Ground.data }], guard := none }) (v := ?_) rfl (by kernel_rfl) (by kernel_rfl) (by kernel_rfl) (fun _ _ _ h => h) (Or.inl ⟨by rfl, ?_⟩) (by assumption) ?_
    rotate_left
    · intro w9 hSw
      obtain ⟨g0, g1, g2⟩ := HSF.out w9 hSw
      go_simp
      try with_reducible rfl
    try simp only [Act.put, List.setIfInBounds_toArray, List.set_cons_zero, List.set_cons_succ]
    refine wpAnyH_take (i := 8) (oi := { dst := some 36, op := Op.extract (Operand.tmp 28) 1, type := 4, pos := "credit.go:100", after := #[{ on := 6, ground := Ground.data }, { on := 10, ground := Ground.gcOnly Departure.lateStores }], guard := none }) (v := ?_) rfl (by kernel_rfl) (by kernel_rfl) (by kernel_rfl) (fun _ _ _ h => h) (Or.inl ⟨by rfl, ?_⟩) (by assumption) ?_
    rotate_left
    · intro w9 hSw
      obtain ⟨g0, g1, g2⟩ := HSF.out w9 hSw
      go_simp
      try with_reducible rfl
    try simp only [Act.put, List.setIfInBounds_toArray, List.set_cons_zero, List.set_cons_succ]
    refine wpAnyH_ready (rs := [9]) (by kernel_rfl) (by simp) ?_
    refine AllReadyH.cons (o := { dst := some 8, op := Op.alloc 78, type := 0, pos := "credit.go:100", after := #[], guard := none }) rfl (fun K hK => ?_) AllReadyH.nil
    go_simp
    refine hK _ _ (fun k hk => HAL.out k hk) (fun hSW => ?_)
    clear hK K
    try simp only [Act.put, List.setIfInBounds_toArray, List.set_cons_zero, List.set_cons_succ]
    refine wpAnyH_ready (rs := [10]) (by kernel_rfl) (by simp) ?_
    refine AllReadyH.cons (o := { dst := none, op := Op.store 78 (Operand.tmp 8) (Operand.tmp 35), type := 0, pos := "credit.go:100", after := #[{ on := 9, ground := Ground.data }, { on := 7, ground := Ground.data }, { on := 0, ground := Ground.phase }, { on := 1, ground := Ground.phase }, { on := 2, ground := Ground.phase }, { on := 3, ground := Ground.phase }, { on := 4, ground := Ground.phase }, { on := 5, ground := Ground.phase }, { on := 6, ground := Ground.phase }, { on := 7, ground := Ground.phase }, { on := 8, ground := Ground.textOnly Departure.lateStores }, { on := 9, ground := Ground.phase }], guard := none }) rfl (fun K hK => ?_) AllReadyH.nil
    go_simp
    refine hK _ _ (fun k hk => HAL.out k hk) (fun hSW => ?_)
    clear hK K
    try simp only [Act.put, List.setIfInBounds_toArray, List.set_cons_zero, List.set_cons_succ]
    refine wpAnyH_take (i := 11) (oi := { dst := some 9, op := Op.assign (Operand.tmp 36), type := 4, pos := "credit.go:100", after := #[{ on := 8, ground := Ground.data }, { on := 10, ground := Ground.chain }, { on := 0, ground := Ground.phase }, { on := 1, ground := Ground.phase }, { on := 2, ground := Ground.phase }, { on := 3, ground := Ground.phase }, { on := 4, ground := Ground.phase }, { on := 5, ground := Ground.phase }, { on := 6, ground := Ground.phase }, { on := 7, ground := Ground.phase }, { on := 8, ground := Ground.phase }, { on := 9, ground := Ground.phase }, { on := 10, ground := Ground.phase }], guard := none }) (v := ?_) rfl (by kernel_rfl) (by kernel_rfl) (by kernel_rfl) (fun _ _ _ h => h) (Or.inl ⟨by rfl, ?_⟩) (by assumption) ?_
    rotate_left
    · intro w9 hSw
      obtain ⟨g0, g1, g2⟩ := HSF.out w9 hSw
      go_simp
      try with_reducible rfl
    try simp only [Act.put, List.setIfInBounds_toArray, List.set_cons_zero, List.set_cons_succ]
    refine wpAnyH_done (by kernel_rfl) ?_ _
    refine HKK.out _ _ ?_
    clear HKK
    obtain ⟨W2, hW2⟩ : ∃ W2, W2 = (W.alloc (.cells #[] 78)).drew := ⟨_, rfl⟩
    rw [← hW2]
    have kW2 : ∀ k, k < W.heap.size → W2.heap[k]? = W.heap[k]? := fun k hk => by rw [hW2]; exact heap_alloc_old _ _ hk
    have hb2W : Below W.heap.size W W2 := by rw [hW2]; exact below_drew1 ((Below.refl _ _).alloc (Nat.le_refl _) _)
    have hko : KeepsOthers W W2 := by rw [hW2]; exact (KeepsOthers.alloc _ _).trans (KeepsOthers.drew _)
    have hCI2 := hCI.below hb2W
    have hS2 := hCI2.seat x hx
    have d1 : W2.cell? ⟨n, 0, none⟩ = some (.pointer (some ⟨qb, 0, none⟩)) := (cell_keepH (kW2 n (by omega))).trans e1
    have d2 : W2.cell? ⟨qb, 0, none⟩ = some (.pointer (some ⟨rb, 0, none⟩)) := hCI2.box.c0
    have d5 := hS2.c1
    have HGO : Hid (mayC may (tcS x) = false → KeepsOthers W W2 ∧ KeepK (fun k => k < N) W W2 ∧ (∀ y ∈ pre ++ [(⟨x, hx⟩ : { x : ST // x ∈ X })], mayC may (tcS y.1) = false) ∧ Below w5.heap.size w5 W2) := Lib.hid fun hm => by
      refine ⟨hko, fun k hk => kW2 k (by have := HSZ5.out; have hk' : k < N := hk; omega), fun y hy => ?_, hBW.trans (hb2W.mono (hBW.size))⟩
      rcases List.mem_append.1 hy with hy | hy
      · exact hp y hy
      · simp at hy; subst hy; exact hm
    have hcl : x.c ≤ 4294967295 := ho.cred (x.t, x.c) (by rw [h5.row]; exact List.mem_map.2 ⟨x, hx, rfl⟩)
    by_cases q1 : x.t ∈ may
    · have q1d : decide (x.t ∈ may) = true := by simpa using q1
      rw [q1d]
      by_cases q2 : x.c = 0
      · have hz : mayC may (tcS x) = false := by unfold mayC tcS; simp [q2]
        have HG := Lib.hid (HGO.out hz)
        rw [q2] at d5
        clear HGO hz q1 q1d q2 hW2 hcl
        gi_wp2
        exact HG.out
      · have q2b : ((x.c : Int) == 0) = false := by rw [beq_eq_false_iff_ne]; omega
        have hz : mayC may (tcS x) = true := by unfold mayC tcS; simp [q1, q2]
        have HU := Lib.hid ((used_any x.c W2 hcl q2).mono fun e w' hx => (show e = .returned (.int .u32 (usedC x.c)) ∧ W2 = w' from ⟨hx.1, hx.2.symm⟩))
        have f5 := hS2.fr 1
        obtain ⟨u, hu⟩ : ∃ u, u = usedC x.c := ⟨_, rfl⟩
        rw [← hu] at HU
        obtain ⟨V1, hV1⟩ : ∃ V1, V1 = W2.setCell ⟨x.b, 1, none⟩ (.int .u32 u) := ⟨_, rfl⟩
        obtain ⟨V2, hV2⟩ : ∃ V2, V2 = V1.setCell ⟨rb, 4, none⟩ (.pointer (some ⟨x.b, 0, none⟩)) := ⟨_, rfl⟩
        have hbr := hS2.neRing hCI2.ring
        have hft := fun k hk => (hCI2.foot k hk)
        have hsz2W := hb2W.size
        have hkeep1 : ∀ k, k ≠ x.b → V1.heap[k]? = W2.heap[k]? := fun k hk => by rw [hV1]; exact heap_setO _ hk
        have hkeep2 : ∀ k, k ≠ rb → V2.heap[k]? = V1.heap[k]? := fun k hk => by rw [hV2]; exact heap_setO _ hk
        have hS3 : SeatC V1 x.b x.t (usedC x.c) := by rw [hV1, hu]; exact hS2.set1 _
        have hR3 : RingC V1 rb sv := hCI2.ring.keep (hkeep1 rb hbr.symm)
        have hR4 : RingC V2 rb x.b := by rw [hV2]; exact hR3.set4 x.b
        have hS4 : SeatC V2 x.b x.t (usedC x.c) := hS3.keep (hkeep2 _ hbr)
        have lw : n + 1 + 1 + 1 ≤ m ∧ m + 1 ≤ W.heap.size := ⟨hnm, hm3⟩
        have hFCn := HF0.out
        have nxb : x.b < n := hFCn _ (.inr (.inr (.inr ⟨x, hx, rfl⟩)))
        have nrb : rb < n := hFCn _ (.inr (.inl rfl))
        have nqb : qb < n := hFCn _ (.inl rfl)
        have kV2 : ∀ k, n ≤ k → k < m + 1 → V2.heap[k]? = w3.heap[k]? := fun k h1 h2 => (hkeep2 k (by omega)).trans ((hkeep1 k (by omega)).trans ((kW2 k (by omega)).trans (kW k h2)))
        have v1 : V1.cell? ⟨n, 0, none⟩ = some (.pointer (some ⟨qb, 0, none⟩)) := (cell_keepH (hkeep1 n (by omega))).trans d1
        have v2 : V1.cell? ⟨qb, 0, none⟩ = some (.pointer (some ⟨rb, 0, none⟩)) := (cell_keepH (hkeep1 qb (hS2.neBox hCI2.box).symm)).trans d2
        have v3 : V1.cell? ⟨rb, 4, none⟩ = some (nodeV sv) := hR3.c4
        have v4 : V1.frozen? ⟨rb, 4, none⟩ = false := hR3.fr 4
        have v5 : V2.cell? ⟨x.b, 0, none⟩ = some (.string (str8 x.t)) := hS4.c0
        have hsV2 : V2.heap.size = W2.heap.size := by rw [hV2, hV1]; simp
        have z1 := (kV2 (n + 1) (by omega) (by omega)).trans y1
        have z2 := (kV2 (n + 1 + 1) (by omega) (by omega)).trans y2
        have HC := Lib.hid (clone_any (str8 x.t) V2 (by have := (ho.tags (x.t, x.c) (by rw [h5.row]; exact List.mem_map.2 ⟨x, hx, rfl⟩)).2; have h40 : x.t.length ≤ 40 := this; rw [str8_size]; omega))
        have HLAST : Hid (∀ w9, Below V2.heap.size V2 w9 → w9.cell? ⟨n + 1, 0, none⟩ = some (.string ⟨#[]⟩) ∧ w9.cell? ⟨n + 1 + 1, 0, none⟩ = some (.bool false) ∧ w9.frozen? ⟨n + 1, 0, none⟩ = false ∧ w9.frozen? ⟨n + 1 + 1, 0, none⟩ = false ∧
            (KeepsOthers W ((w9.setCell ⟨n + 1, 0, none⟩ (.string (str8 x.t))).setCell ⟨n + 1 + 1, 0, none⟩ (.bool true)) ∧ TurnS w B qb rb mb n N X s x ((w9.setCell ⟨n + 1, 0, none⟩ (.string (str8 x.t))).setCell ⟨n + 1 + 1, 0, none⟩ (.bool true)))) := Lib.hid fun w9 hb9 => by
          have hsz9 := hb9.size
          have h91 := (hb9.block (n + 1) (by omega)).trans z1
          have h92 := (hb9.block (n + 1 + 1) (by omega)).trans z2
          refine ⟨by rw [cell_of_row _ _ _ _ _ (0, 0) h91]; rfl, by rw [cell_of_row _ _ _ _ _ (0, 0) h92]; rfl, frozen_of_row _ _ _ _ _ h91, frozen_of_row _ _ _ _ _ h92, ?_, ?_⟩
          · have e1 : KeepsOthers W V2 := by rw [hV2, hV1]; exact (hko.trans (KeepsOthers.setCell _ _ _)).trans (KeepsOthers.setCell _ _ _)
            have e2 : KeepsOthers V2 w9 := ⟨hb9.size, fun k o hk _ => (hb9.block k (Array.getElem?_eq_some_iff.1 hk).1).trans hk⟩
            exact ((e1.trans e2).trans (KeepsOthers.setCell _ _ _)).trans (KeepsOthers.setCell _ _ _)
          · obtain ⟨A1, D1, hX⟩ := List.append_of_mem hx
            refine ⟨⟨A1, D1, hX, ?_⟩, ?_, ?_, ?_, ?_⟩
            · have hc2 := hCI2
              rw [hX] at hc2
              have hset := hc2.setC (w' := V2) ho usedC (u := x.t) (sv' := x.b) (fun k h1 h2 => (hkeep2 k h2).trans (hkeep1 k h1)) hR4 hS4 (fun a i hi => by rw [hV2, cell_other23 a (by rcases hi with rfl | rfl <;> decide), hV1, cell_other23 a (by rcases hi with rfl | rfl <;> decide)]) (.inr ⟨x, by simp, rfl, rfl⟩)
              refine hset.keep fun k hk => ?_
              rw [FC_setC, ← hX] at hk
              have hkn := hFCn k hk
              rw [heap_setO _ (by omega), heap_setO _ (by omega)]
              exact hb9.block k (by omega)
            · have hbw2 : Below n w W2 := by
                have e0 : Below n w w1 := by rw [HN0.out]; exact HB1.out
                have e1 : Below n w1 w3 := HB3.out.mono (by rw [HSZ1.out]; omega)
                have e2 : Below n w3 w5 := hb5.mono (by rw [HSZ3.out]; omega)
                have e3 : Below n w5 W := hBW.mono (by rw [HSZ5.out, HN.out]; omega)
                exact (((e0.trans e1).trans e2).trans e3).trans (hb2W.mono (by omega))
              have e1 : MovedQ (FC qb rb mb X) w W2 := MovedQ.of_below (by rw [← HN0.out]; exact hbw2)
              have e2 : MovedQ (FC qb rb mb X) w V2 := by
                rw [hV2, hV1]
                exact (e1.setCell (fun _ => .inr (.inr (.inr ⟨x, hx, rfl⟩))) _ _).setCell (fun _ => .inr (.inl rfl)) _ _
              exact ((e2.step hb9).setCell (fun h => by rw [← HN0.out] at h; omega) _ _).setCell (fun h => by rw [← HN0.out] at h; omega) _ _
            · rw [heap_setO _ (by omega)]
              exact heap_setCell_same _ _ 0 _ _ _ h91
            · exact heap_setCell_same _ (n + 1 + 1) 0 #[.bool false] 4 (.bool true) ((heap_setO _ (by omega)).trans h92)
            · have := HN.out
              have := HSZ5.out
              show N ≤ ((w9.setCell _ _).setCell _ _).heap.size
              simp
              omega
        have HV1 := Lib.hid hV1
        have HV2 := Lib.hid hV2
        have HPP := Lib.hid hp
        have HZ := Lib.hid hz
        have HNN := HN.out
        clear HGO q1 q1d hW2 hV1 hV2 hu HF0 hFCn z1 z2 kV2 hsV2 hR3 hR4 hS3 hS4 hkeep1 hkeep2 hft lw hbr hcl hz hp kW2 hb2W hko hCI2 hS2 d1 d2 e0 e1 e2 e3 e4 e5 hWsz hm3 hnm hsz2W HNN hS hCI kW hset5 y0 y1 y2 y3
        unfold nodeV at v3
        gi_upto_region 9 with (refine ⟨trivial, ?_⟩; gi_at_call 32; refine (CallsIn.inRound l (callsIn_wide.2 HU.out)).mono ?_; rintro e w9 ⟨rfl, rfl⟩)
        rw [← HV1.out]
        clear d5 f5
        gi_upto_region 10 with fail
        rw [← HV2.out]
        clear v1 v2 v3 v4
        gi_wp2_with (refine ⟨trivial, ?_⟩; gi_at_call 24; refine (CallsIn.inRound l (callsIn_wide.2 HC.out)).mono ?_; rintro e w9 ⟨rfl, hb9⟩; obtain ⟨t1, t2, t3, t4, t5, t6⟩ := HLAST.out w9 hb9)
        exact ⟨t5, ⟨rfl, pre, ⟨x, hx⟩, rfl, HPP.out, HZ.out⟩, _, ⟨pre, ⟨x, hx⟩, rfl, t6⟩, Below.refl _ _, t6.sz⟩
    · have q1d : decide (x.t ∈ may) = false := by simpa using q1
      have hz : mayC may (tcS x) = false := by unfold mayC tcS; simp [q1]
      have HG := Lib.hid (HGO.out hz)
      rw [q1d]
      clear HGO hz q1 q1d hW2 hcl
      gi_wp2
      exact HG.out
  case done =>
    rintro D xs W hD hSx ⟨hp, hBW⟩ hDef
    obtain ⟨y0, y1, y2, y3⟩ := HY.out
    have hnm' : n + 1 + 1 + 1 ≤ m := hnm
    have kW : ∀ k, k < m + 1 → W.heap[k]? = w3.heap[k]? := fun k hk => (hBW.block k (by omega)).trans (k5 k hk)
    have z1 := (kW (n + 1) (by omega)).trans y1
    have z2 := (kW (n + 1 + 1) (by omega)).trans y2
    have a1 : W.cell? ⟨n + 1, 0, none⟩ = some (.string ⟨#[]⟩) := by rw [cell_of_row _ _ _ _ _ (0, 0) z1]; rfl
    have a2 : W.cell? ⟨n + 1 + 1, 0, none⟩ = some (.bool false) := by rw [cell_of_row _ _ _ _ _ (0, 0) z2]; rfl
    have a3 : W.frozen? ⟨n + 1, 0, none⟩ = false := frozen_of_row _ _ _ _ _ z1
    have a4 : W.frozen? ⟨n + 1 + 1, 0, none⟩ = false := frozen_of_row _ _ _ _ _ z2
    have hturn : s.turn may = (([], false), s) := by
      have e : (rotA s.last [] s.l).find? (mayC may) = none := by
        rw [hrot.rot, ← attX_val hrot.mem, ← hSx]
        exact find_none' hp
      unfold CP.turn
      rw [e]
    obtain ⟨W9, hW9⟩ : ∃ W9, W9 = (W.setCell ⟨n + 1, 0, none⟩ (.string ⟨#[]⟩)).setCell ⟨n + 1 + 1, 0, none⟩ (.bool false) := ⟨_, rfl⟩
    have b1 : W9.heap[n + 1]? = some (.cells #[.string ⟨#[]⟩] 9 (0, 0)) := by
      rw [hW9, heap_setO _ (by omega)]
      exact heap_setCell_same W (n + 1) 0 #[.string ⟨#[]⟩] 9 (.string ⟨#[]⟩) z1
    have b2 : W9.heap[n + 1 + 1]? = some (.cells #[.bool false] 4 (0, 0)) := by
      rw [hW9]
      exact heap_setCell_same _ (n + 1 + 1) 0 #[.bool false] 4 (.bool false) ((heap_setO _ (by omega)).trans z2)
    have hDN : n + 1 + 1 < D := by omega
    have hDef9 : W9.heap[D]? = some (.deferred (some [])) := by rw [hW9, heap_setO _ (by omega), heap_setO _ (by omega)]; exact hDef
    have hB9 : Below w.heap.size w W9 := by
      rw [hW9]
      have e0 : Below w.heap.size w w3 := HB1.out.trans (HB3.out.mono HB1.out.size)
      have e1 : Below w.heap.size w w5 := e0.trans (hb5.mono e0.size)
      have e2 : Below w.heap.size w W := e1.trans (hBW.mono e1.size)
      exact below_set (below_set e2 (by rw [← HN0.out]; omega) _) (by rw [← HN0.out]; omega) _
    have HFIN : Hid (LeftC w B qb F (s.turn may).2 (W9.putObj D (.deferred none))) := Lib.hid (by
      rw [hturn]
      refine LeftC.of_below HSAME.out (hB9.trans ?_)
      exact (Below.refl _ _).grown (grownBy_putObj' _ D _) hB9.size (fun k e => by cases e; rw [← HN0.out]; omega))
    have c4 : (W9.putObj D (.deferred none)).cell? ⟨n + 1, 0, none⟩ = some (.string ⟨#[]⟩) := by
      rw [cell_keepH (w := W9) (World.putObj_heap_other (by omega)), cell_of_row _ _ _ _ _ (0, 0) b1]; rfl
    have c5 : (W9.putObj D (.deferred none)).cell? ⟨n + 1 + 1, 0, none⟩ = some (.bool false) := by
      rw [cell_keepH (w := W9) (World.putObj_heap_other (by omega)), cell_of_row _ _ _ _ _ (0, 0) b2]; rfl
    have HT := Lib.hid (run_takeDeferred (P := Try.prog) hDef9)
    have HTT := Lib.hid hturn
    have HW9 := Lib.hid hW9
    have HC4 := Lib.hid c4
    have HC5 := Lib.hid c5
    clear hW9 hturn b1 b2 hDef9 hB9 z1 z2 kW y0 y1 y2 y3 hN hsz5 hSx hp hBW hDef c4 c5 k5 hb5 g5 q5
    go_wp2_with fail
    rw [← HW9.out]
    refine ⟨by simp, .inl ⟨_, _, rfl, HT.out, ?_⟩⟩
    refine ⟨.tuple #[.string ⟨#[]⟩, .bool false], ?_, ?_, HFIN.out⟩
    · simp [results, Try.f15, go_sem, HC4.out, HC5.out]
    · rw [HTT.out]; rfl
  case stop =>
    rintro D cc pre W hD hpre ⟨⟨rfl, p, x, hpx, hp, hz⟩, W0, ⟨p2, x2, hpx2, hT⟩, hB0, hNW⟩ hDef
    have epx := hpx.symm.trans hpx2
    have e5 := (List.append_inj' epx rfl).2
    simp at e5
    subst e5
    have hnm' : n + 1 + 1 + 1 ≤ m := hnm
    have hturn : s.turn may = ((x.1.t, true), ⟨updA x.1.t usedC s.l, x.1.t⟩) := by
      have e : (rotA s.last [] s.l).find? (mayC may) = some (tcS x.1) := by
        rw [hrot.rot]
        refine find_serv (pre := p) hp hz ?_
        obtain ⟨r, hr⟩ := hpre
        refine ⟨r.map (·.1), ?_⟩
        rw [← attX_val hrot.mem, ← hr, hpx, List.map_append]
      unfold CP.turn
      rw [e]
      rfl
    have hlt : ∀ k, k < N → W.heap[k]? = W0.heap[k]? := fun k hk => hB0.block k hk
    have z1 := (hlt (n + 1) (by omega)).trans hT.r1
    have z2 := (hlt (n + 1 + 1) (by omega)).trans hT.r2
    have hDN : N ≤ D := by omega
    have hput : ∀ k, k < N → (W.putObj D (.deferred none)).heap[k]? = W.heap[k]? := fun k hk => World.putObj_heap_other (by omega)
    have c4 : (W.putObj D (.deferred none)).cell? ⟨n + 1, 0, none⟩ = some (.string (str8 x.1.t)) := by
      rw [cell_keepH (w := W) (hput _ (by omega)), cell_of_row _ _ _ _ _ (0, 0) z1]; rfl
    have c5 : (W.putObj D (.deferred none)).cell? ⟨n + 1 + 1, 0, none⟩ = some (.bool true) := by
      rw [cell_keepH (w := W) (hput _ (by omega)), cell_of_row _ _ _ _ _ (0, 0) z2]; rfl
    have HFIN : Hid (LeftC w B qb F (s.turn may).2 (W.putObj D (.deferred none))) := Lib.hid (by
      have hok := ho.turn may
      rw [hturn] at hok ⊢
      obtain ⟨A1, D1, hX, hci⟩ := hT.ci
      have efc := FC_setC qb rb mb A1 D1 x.1 usedC
      refine ⟨FC qb rb mb X, ⟨hok, rb, mb, x.1.b, A1 ++ ⟨x.1.t, usedC x.1.c, x.1.b⟩ :: D1, hci.keep fun k hk => ?_, by rw [efc, ← hX]⟩, fun k hk => .inl (by rw [hF]; exact hk), ?_⟩
      · rw [efc, ← hX] at hk
        have := HF0.out k hk
        exact (hput k (by omega)).trans (hlt k (by omega))
      · rw [hF]
        have e1 : Below w.heap.size W0 (W.putObj D (.deferred none)) := by
          have e2 : Below w.heap.size W0 W := hB0.mono (by rw [← HN0.out]; omega)
          exact e2.grown (grownBy_putObj' _ D _) (by rw [← HN0.out]; omega) (fun k e => by cases e; rw [← HN0.out]; omega)
        exact ⟨e1.os.trans hT.mv.os, e1.tape.trans hT.mv.tape, e1.output.trans hT.mv.output, Nat.le_trans hT.mv.size e1.size, fun k hk hn => (e1.block k hk).trans (hT.mv.block k hk hn)⟩)
    have HT := Lib.hid (run_takeDeferred (P := Try.prog) hDef)
    have HTT := Lib.hid hturn
    have HC4 := Lib.hid c4
    have HC5 := Lib.hid c5
    clear hturn z1 z2 hN hsz5 hpx hp hz hDef c4 c5 k5 hb5 g5 q5 hT hpx2 epx hpre hlt hput hB0
    refine (wpIn_wide (n := 5)).2 ?_
    go_wp2_with fail
    refine ⟨by simp, .inl ⟨_, _, rfl, HT.out, ?_⟩⟩
    refine ⟨.tuple #[.string (str8 x.1.t), .bool true], ?_, ?_, HFIN.out⟩
    · simp [results, Try.f15, go_sem, HC4.out, HC5.out]
    · rw [HTT.out]
end

end Go.Proofs.Ytknfiiacalfelaa
