/-
  The program's isMade, New, Ready, Kept, Room and refused of queues.
  Conditions: none but sizes.
-/
import Derived.Test.YtkcbkimconaegaaQpM
import Derived.Deep.RegionLaw
namespace Go.Proofs.Ytkcbkimconaegaa
open Go.RowKit
set_option linter.unusedVariables false
set_option linter.unusedSimpArgs false
set_option maxRecDepth 100000

theorem equalIn_map_nil {P : Program} (w : World) (d : Nat) (t k e : TypeId) (p : Option Nat) (h : P.underlying t = some (.map k e)) : (Op.equalIn (d + 1) t (.map p) (.map none)).run P w = .ok p.isNone w := by
  cases p <;> simp [Op.equalIn, run_underlying h]
theorem neq_map_nil {P : Program} (w : World) (t k e : TypeId) (p : Option Nat) (h : P.underlying t = some (.map k e)) : (binOp .neq t (.map p) (.map none)).run P w = .ok (.bool p.isSome) w := by
  simp only [binOp]
  cases p <;> simp [show ∀ p, Op.equal t (.map p) (.map none) = Op.equalIn (9999 + 1) t (.map p) (.map none) from fun _ => rfl, equalIn_map_nil w 9999 t k e _ h]
theorem pmap_ne (w : World) (mb : Option Nat) : (binOp BinOp.neq 55 (.map mb) (.map none)).run Try.prog w = .ok (.bool mb.isSome) w := neq_map_nil w _ _ _ mb Try.underlying55
theorem pmap_make (u : World) : (Instr.makeMap 55 none).run Try.prog u = .ok (.map (some u.heap.size)) (u.alloc (.map #[] 0)) := by simp [Instr.makeMap, run_underlying Try.underlying55, Result.andThen]

section
variable {w w' : World} {B qb : Nat} {F : Nat → Prop} {q : QP}
theorem pmade_any (h : PW w B qb q F) : Calls Try.prog 41 #[.pointer (some ⟨qb, 0, none⟩)] w fun e w' => e = .returned (.bool true) ∧ w' = w := by
  obtain ⟨v, mb, M, h1, _⟩ := h
  have c4 := h1.box.c4
  have hm := pmap_ne w (some mb)
  clear h1
  go_enter Try.func41, Try.ntmps41
  go_wp2_with fail
  go_ret
  exact ⟨rfl, rfl⟩
theorem rready_any (h : PW w B qb q F) : Calls Try.prog 15 #[.pointer (some ⟨qb, 0, none⟩)] w fun e w' => e = .returned (.int .i64 (ofQ 0 q.l).length) ∧ w' = w := by
  obtain ⟨v, mb, M, h1, _⟩ := h
  obtain ⟨A, c, rfl, _, _⟩ := h1.row.form
  have c3 := h1.box.c3
  clear h1
  generalize (ofQ 0 q.l).length = n at *
  go_enter Try.func15, Try.ntmps15
  go_wp2_with fail
  go_ret
  exact ⟨rfl, rfl⟩
theorem rkept_any (h : PW w B qb q F) : Calls Try.prog 27 #[.pointer (some ⟨qb, 0, none⟩)] w fun e w' => e = .returned (.int .i64 q.kept) ∧ w' = w := by
  obtain ⟨v, mb, M, h1, _⟩ := h
  have c1 := h1.box.c1
  clear h1
  generalize q.kept = n at *
  go_enter Try.func27, Try.ntmps27
  go_wp2_with fail
  go_ret
  exact ⟨rfl, rfl⟩
theorem pmap_len {w : World} {mb : Nat} {M : List (Nat × Value)} (h : MapS u64Fam w mb M) (ty : TypeId) : (Builtin.len_ #[55] ty #[.map (some mb)]).run Try.prog w = .ok (.int .i64 M.length) w := MapS.len h Try.underlying55 ty
set_option maxHeartbeats 1000000 in
theorem rroom_any (h : PW w B qb q F) (ho : q.ok) : Calls Try.prog 28 #[.pointer (some ⟨qb, 0, none⟩)] w fun e w' => e = .returned (.int .u64 q.room) ∧ Below w.heap.size w w' := by
  obtain ⟨v, mb, M, h1, _⟩ := h
  obtain ⟨A, c, rfl, _, _⟩ := h1.row.form
  have c0 := h1.box.c0
  have c1 := h1.box.c1
  have c3 := h1.box.c3
  have c4 := h1.box.c4
  have hlen := fun ty => pmap_len (h1.map.keep (w' := w.drew) rfl) ty
  have hm := h1.mq.len
  have hf := ho.fit
  have hl := ho.lim
  have h2 := two_len q.l
  obtain ⟨n, hn⟩ : ∃ n, n = (ofQ 0 q.l).length := ⟨_, rfl⟩
  obtain ⟨m, hm2⟩ : ∃ m, m = M.length := ⟨_, rfl⟩
  obtain ⟨s, hs⟩ : ∃ s, s = n + m := ⟨_, rfl⟩
  obtain ⟨u, hu⟩ : ∃ u, u = n + m + q.kept := ⟨_, rfl⟩
  have hul : u ≤ q.lim := by omega
  have u1 : IntKind.u64.wrap (n : Int) = (n : Int) := by rw [IntKind.wrap_u64]; omega
  have u2 : IntKind.u64.wrap (m : Int) = (m : Int) := by rw [IntKind.wrap_u64]; omega
  have u3 : IntKind.u64.wrap (q.kept : Int) = (q.kept : Int) := by rw [IntKind.wrap_u64]; omega
  have u4 : IntKind.u64.wrap ((n : Int) + (m : Int)) = (s : Int) := by rw [IntKind.wrap_u64]; omega
  have u5 : IntKind.u64.wrap ((s : Int) + (q.kept : Int)) = (u : Int) := by rw [IntKind.wrap_u64]; omega
  obtain ⟨r, hr⟩ : ∃ r, r = q.room := ⟨_, rfl⟩
  have u6 : IntKind.u64.wrap ((q.lim : Int) - (u : Int)) = (r : Int) := by rw [IntKind.wrap_u64, hr]; unfold QP.room; omega
  have w0 : IntKind.u64.wrap 0 = 0 := by decide
  have HZ := Lib.hid (show ¬ u < q.lim → r = 0 from fun _ => by rw [hr]; unfold QP.room; omega)
  rw [← hr]
  rw [← hn] at c3
  rw [← hm2] at hlen
  clear h1 hr hu hn hf hl hs h2 hm hm2 hul
  generalize q.lim = lim at *
  generalize q.kept = kept at *
  go_enter Try.func28, Try.ntmps28
  go_wp2_with fail
  go_region
  go_wp2_with fail
  go_region
  go_wp2_with fail
  · go_ret
    exact ⟨rfl, below_drewN (Below.refl _ _) 2⟩
  · have hr0 := HZ.out (by assumption)
    subst hr0
    go_ret
    exact ⟨rfl, below_drewN (Below.refl _ _) 2⟩
theorem prefused_any (h : PW w B qb q F) (id : Nat) (r : Nat) (hr : r = if id ≤ q.last then 2 else 0) : Calls Try.prog 43 #[.pointer (some ⟨qb, 0, none⟩), .int .u64 id] w fun e w' => e = .returned (.int .i64 r) ∧ w' = w := by
  have HM := Lib.hid (pmade_any h)
  obtain ⟨v, mb, M, h1, _⟩ := h
  have c2 := h1.box.c2
  clear h1
  generalize q.last = last at *
  by_cases t : id ≤ last
  · rw [if_pos t] at hr
    subst hr
    have tI : (id : Int) ≤ (last : Int) := by omega
    clear t
    go_enter Try.func43, Try.ntmps43
    go_wp2_with fail
    refine HM.out.mono ?_
    rintro e w1 ⟨rfl, rfl⟩
    go_wp2_with fail
    go_ret
    exact ⟨rfl, rfl⟩
  · rw [if_neg t] at hr
    subst hr
    have tI : ¬ (id : Int) ≤ (last : Int) := by omega
    clear t
    go_enter Try.func43, Try.ntmps43
    go_wp2_with fail
    refine HM.out.mono ?_
    rintro e w1 ⟨rfl, rfl⟩
    go_wp2_with fail
    go_ret
    exact ⟨rfl, rfl⟩
end
theorem rnewQ_any (lim : Nat) (w : World) (h : lim < 18446744073709551616) : Calls Try.prog 7 #[.int .u64 lim] w fun e w' => ∃ qb F, e = .returned (.pointer (some ⟨qb, 0, none⟩)) ∧ PW w' w.heap.size qb ⟨min lim 4611686018427387904, [], 0, 0⟩ F ∧ Below w.heap.size w w' := by
  obtain ⟨m, hm⟩ : ∃ m, m = min lim 4611686018427387904 := ⟨_, rfl⟩
  have t1 : (if (4611686018427387904 : Int) < (lim : Int) then (4611686018427387904 : Int) else (lim : Int)) = (m : Int) := by split <;> omega
  have t2 : min (lim : Int) 4611686018427387904 = (m : Int) := by omega
  have hmk := pmap_make
  rw [← hm]
  have HFIN : Hid (PW ((w.alloc (.map #[] 0)).alloc (.cells #[.int .u64 m, .int .i64 0, .int .u64 0, .slice none 0 0, .map (some w.heap.size)] 57)) w.heap.size (w.heap.size + 1) ⟨m, [], 0, 0⟩ (FP (w.heap.size + 1) w.heap.size (.slice none 0 0))) := Lib.hid ⟨_, _, [], ⟨by
      have := heap_alloc_new (w.alloc (.map #[] 0)) (.cells #[.int .u64 m, .int .i64 0, .int .u64 0, .slice none 0 0, .map (some w.heap.size)] 57)
      rw [World.size_alloc] at this
      exact this, .inl ⟨rfl, rfl⟩, (MapS.new u64Fam w).keep (heap_alloc_old _ _ (by simp)), MapQ.nil, by omega, Nat.le_refl _⟩, rfl⟩
  clear hm h
  go_enter Try.func7, Try.ntmps7
  go_wp2_with fail
  go_ret
  exact ⟨_, _, rfl, HFIN.out, (((Below.refl _ _).alloc (Nat.le_refl _) _).alloc (by simp) _)⟩

end Go.Proofs.Ytkcbkimconaegaa
