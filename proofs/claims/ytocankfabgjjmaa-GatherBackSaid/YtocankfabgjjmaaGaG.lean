/-
  The contracts of Open of gather's Gather, and of Feed where it refuses.
  Conditions: none but sizes.
-/
import Derived.Test.YtocankfabgjjmaaGaF
import Derived.Deep.RegionWith
import Derived.StillTailTactics
namespace Go.Proofs.Ytocankfabgjjmaa
open Go.RowKit
set_option linter.unusedVariables false
set_option linter.unusedSimpArgs false

/-- How much is open. -/
def openN (o : Option (List (Plc × Pt))) : Nat := match o with | none => 0 | some M => M.length

set_option maxRecDepth 100000 in
theorem gopen_any (w : World) (B gb : Nat) (o : Option (List (Plc × Pt))) (F : Nat → Prop) (h : GW w B gb o F) : Calls Try.prog 10 #[.pointer (some ⟨gb, 0, none⟩)] w fun e w' => e = .returned (.int .i64 (openN o)) ∧ w' = w := by
  cases o with
  | none =>
    obtain ⟨h1, _, _⟩ := h
    have c1 : w.cell? ⟨gb, 1, none⟩ = some (.map none) := by rw [cell_of_row w gb _ _ 54 (0, 0) h1]; rfl
    clear h1
    go_enter Try.func10, Try.ntmps10
    go_wp2_with fail
    go_ret
    exact ⟨rfl, rfl⟩
  | some M =>
    obtain ⟨mb, cs, h1, rfl, _⟩ := h
    have c1 := h1.c1
    have hl := h1.map.len 3
    have hlen : openN (some (cs.map fun x => (x.1, x.2.p))) = (cs.map fun x => (x.1, x.2.val)).length := by simp [openN]
    rw [hlen]
    generalize (cs.map fun x => (x.1, x.2.val)).length = n at *
    clear h1 hlen
    go_enter Try.func10, Try.ntmps10
    go_wp2_with fail
    go_ret
    exact ⟨rfl, rfl⟩

set_option maxRecDepth 100000 in
theorem gopen_nil (w : World) : Calls Try.prog 10 #[.pointer none] w fun e w' => e = .returned (.int .i64 0) ∧ w' = w := by
  go_enter Try.func10, Try.ntmps10
  go_wp2_with fail
  go_ret
  exact ⟨rfl, rfl⟩

/-- An answer's value. -/
def ansV (a : Ans) (v : Value) : Value := .tuple #[.agg #[.int .u16 a.ch, .int .u8 a.k, v], .bool a.is, .int .i64 a.e]

set_option maxRecDepth 100000 in
theorem feed_nil (f : Fr) (w : World) : Calls Try.prog 7 #[.pointer none, .agg f.vs.toArray] w fun e w' => e = .returned (ansV (ans0 1) (.slice none 0 0)) ∧ Below w.heap.size w w' := by
  obtain ⟨fa, fb, fc, fd, ft, fk, fch, fp⟩ := f
  simp only [Fr.vs]
  go_enter Try.func7, Try.ntmps7
  go_wp2_with fail
  refine bodyPost_ret (results_c3 rfl _ _ (w.heap.size + 1) 34 _ (0, 0) _ rfl (by have := heap_alloc_new (w.alloc (Obj.cells #[.bool fa, .bool fb, .bool fc, .bool fd, .int .u8 ft, .int .u8 fk, .int .u16 fch, .string fp] 30)) (Obj.cells #[.int .u16 0, .int .u8 0, .slice none 0 0] 34); rwa [World.size_alloc] at this) Try.underlying34 rfl (by kernel_rfl)) rfl ⟨rfl, (f_below_box w _).alloc (by simp) _⟩

set_option maxRecDepth 100000 in
theorem feed_unmade (f : Fr) (gb : Nat) (w : World) (h : w.heap[gb]? = some (.cells #[.int .u8 0, .map none] 54 (0, 0))) : Calls Try.prog 7 #[.pointer (some ⟨gb, 0, none⟩), .agg f.vs.toArray] w fun e w' => e = .returned (ansV (ans0 1) (.slice none 0 0)) ∧ Below w.heap.size w w' := by
  obtain ⟨fa, fb, fc, fd, ft, fk, fch, fp⟩ := f
  simp only [Fr.vs]
  have hb2 := fun o o' => (f_below_box w o).alloc (by simp) o'
  have c0 := fun o o' => ((hb2 o o').cell (p := ⟨gb, 0, none⟩) (Array.getElem?_eq_some_iff.1 h).1).trans (show w.cell? ⟨gb, 0, none⟩ = some (.int .u8 0) by rw [cell_of_row w gb _ _ 54 (0, 0) h]; rfl)
  have c0' := c0 (Obj.cells #[.bool fa, .bool fb, .bool fc, .bool fd, .int .u8 ft, .int .u8 fk, .int .u16 fch, .string fp] 30) (Obj.cells #[.int .u16 0, .int .u8 0, .slice none 0 0] 34)
  have HB := Lib.hid hb2
  clear h hb2 c0
  go_enter Try.func7, Try.ntmps7
  go_wp2_with fail
  refine bodyPost_ret (results_c3 rfl _ _ (w.heap.size + 1) 34 _ (0, 0) _ rfl (by have := heap_alloc_new (w.alloc (Obj.cells #[.bool fa, .bool fb, .bool fc, .bool fd, .int .u8 ft, .int .u8 fk, .int .u16 fch, .string fp] 30)) (Obj.cells #[.int .u16 0, .int .u8 0, .slice none 0 0] 34); rwa [World.size_alloc] at this) Try.underlying34 rfl (by kernel_rfl)) rfl ⟨rfl, HB.out _ _⟩

set_option maxRecDepth 100000 in
theorem feed_dead (f : Fr) (gb : Nat) (w : World) (h : GD w gb) : Calls Try.prog 7 #[.pointer (some ⟨gb, 0, none⟩), .agg f.vs.toArray] w fun e w' => e = .returned (ansV (ans0 9) (.slice none 0 0)) ∧ Below w.heap.size w w' := by
  obtain ⟨fa, fb, fc, fd, ft, fk, fch, fp⟩ := f
  simp only [Fr.vs]
  have hb2 := fun o o' => (f_below_box w o).alloc (by simp) o'
  have c0 := fun o o' => ((hb2 o o').cell (p := ⟨gb, 0, none⟩) (Array.getElem?_eq_some_iff.1 h).1).trans (show w.cell? ⟨gb, 0, none⟩ = some (.int .u8 2) by rw [cell_of_row w gb _ _ 54 (0, 0) h]; rfl)
  have c0' := c0 (Obj.cells #[.bool fa, .bool fb, .bool fc, .bool fd, .int .u8 ft, .int .u8 fk, .int .u16 fch, .string fp] 30) (Obj.cells #[.int .u16 0, .int .u8 0, .slice none 0 0] 34)
  have HB := Lib.hid hb2
  clear h hb2 c0
  go_enter Try.func7, Try.ntmps7
  go_wp2_with fail
  refine bodyPost_ret (results_c3 rfl _ _ (w.heap.size + 1) 34 _ (0, 0) _ rfl (by have := heap_alloc_new (w.alloc (Obj.cells #[.bool fa, .bool fb, .bool fc, .bool fd, .int .u8 ft, .int .u8 fk, .int .u16 fch, .string fp] 30)) (Obj.cells #[.int .u16 0, .int .u8 0, .slice none 0 0] 34); rwa [World.size_alloc] at this) Try.underlying34 rfl (by kernel_rfl)) rfl ⟨rfl, HB.out _ _⟩

/-- What Feed of one that is alive tells. -/
def FeedSaid (w : World) (B gb : Nat) (F : Nat → Prop) (r : Ans × Option (List (Plc × Pt))) (e : Ending) (w' : World) : Prop :=
  ∃ v F', e = .returned (ansV r.1 v) ∧ OwnG sgC 46 w' w.heap.size v r.1.l ∧ GW w' B gb r.2 F' ∧ (∀ k, F' k → F k ∨ w.heap.size ≤ k) ∧ Moved F w w'

/-- The world ahead of the look-up. -/
def w3 (w : World) (f : Fr) : World := ((w.alloc (Obj.cells #[.bool f.a, .bool f.b, .bool f.c, .bool f.d, .int .u8 f.t, .int .u8 f.k, .int .u16 f.ch, .string f.p] 30)).alloc (Obj.cells #[.int .u16 0, .int .u8 0, .slice none 0 0] 34)).alloc (Obj.cells #[.int .u16 f.ch, .int .u16 f.k] 55)

structure W3 (w W : World) (f : Fr) : Prop where
  fr : BoxF W w.heap.size f
  asm : BoxA W (w.heap.size + 1) 0 0 (.slice none 0 0)
  key : W.heap[w.heap.size + 1 + 1]? = some (.cells #[.int .u16 f.ch, .int .u16 f.k] 55 (0, 0))
  bel : Below w.heap.size w W
theorem W3.of (w : World) (f : Fr) : W3 w (w3 w f) f ∧ (w3 w f).heap.size = w.heap.size + 1 + 1 + 1 := by
  refine ⟨⟨?_, ?_, ?_, ?_⟩, by simp [w3]⟩
  · exact ((BoxF.new w f).kept (f_below_box _ _) (Nat.le_refl _)).kept (f_below_box _ _) (Nat.le_refl _)
  · have := BoxA.new (w.alloc (Obj.cells #[.bool f.a, .bool f.b, .bool f.c, .bool f.d, .int .u8 f.t, .int .u8 f.k, .int .u16 f.ch, .string f.p] 30)) 0 0 (.slice none 0 0)
    rw [World.size_alloc] at this
    exact this.kept (f_below_box _ _) (Nat.le_refl _)
  · have := heap_alloc_new ((w.alloc (Obj.cells #[.bool f.a, .bool f.b, .bool f.c, .bool f.d, .int .u8 f.t, .int .u8 f.k, .int .u16 f.ch, .string f.p] 30)).alloc (Obj.cells #[.int .u16 0, .int .u8 0, .slice none 0 0] 34)) (Obj.cells #[.int .u16 f.ch, .int .u16 f.k] 55)
    rw [World.size_alloc, World.size_alloc] at this
    exact this
  · exact ((f_below_box w _).alloc (by simp) _).alloc (by simp; omega) _

theorem celAt_opt (cs : List (Plc × Cel)) (q : Plc) : (if (getM cs q).isSome = true then some (celAt cs q).p else none) = getM (cs.map fun x => (x.1, x.2.p)) q := by
  unfold celAt
  rw [getM_map]
  cases getM cs q <;> rfl

/-- A frame is added to what stands at a place: the gatherer behind the store, and behind the deletion. -/
theorem GL.add {w5 w6 : World} {B gb mb pb : Nat} {cs : List (Plc × Cel)} (h : GL w5 B gb mb cs) {q : Plc} (hB : B ≤ w5.heap.size) (hpb : ¬ GF gb mb cs pb) {c' : Cel} (hc : CelW w6 B c') (hok : PtOk c'.p)
    (h1 : c'.v1.ownBlock = (celAt cs q).v1.ownBlock ∨ ∃ k, c'.v1.ownBlock = some k ∧ w5.heap.size ≤ k) (h2 : c'.v2.ownBlock = (celAt cs q).v2.ownBlock ∨ ∃ k, c'.v2.ownBlock = some k ∧ w5.heap.size ≤ k)
    (mv : Moved (addF pb (celAt cs q).v1 (celAt cs q).v2) w5 w6) :
    MapIs w6 mb (cs.map fun x => (x.1, x.2.val)) ∧ w6.heap[gb]? = some (.cells #[.int .u8 1, .map (some mb)] 54 (0, 0)) ∧
    (∀ w7, MapIs w7 mb (putM (cs.map fun x => (x.1, x.2.val)) q c'.val) → w6.grownBy w7 (some mb) → GL w7 B gb mb (putM cs q c') ∧ (∀ k, GF gb mb (putM cs q c') k → GF gb mb cs k ∨ w5.heap.size ≤ k)) ∧
    (∀ w7, MapIs w7 mb (delM (cs.map fun x => (x.1, x.2.val)) q) → w6.grownBy w7 (some mb) → GL w7 B gb mb (delM cs q) ∧ (∀ k, GF gb mb (delM cs q) k → GF gb mb cs k)) ∧
    (∀ k, addF pb (celAt cs q).v1 (celAt cs q).v2 k → k = pb ∨ GF gb mb cs k) ∧ (∀ k, c'.has k → GF gb mb cs k ∨ w5.heap.size ≤ k) ∧ (∀ k, c'.has k → k ≠ mb ∧ k ≠ gb) := by
  have hne := h.ne
  have hold : ∀ k, (celAt cs q).has k → ∃ c, (q, c) ∈ cs ∧ getM cs q = some c ∧ c.has k := fun k hk => by
    obtain ⟨c, h1, h2⟩ := celAt_has hk
    exact ⟨c, getM_mem h1, h1, h2⟩
  have hadd : ∀ k, addF pb (celAt cs q).v1 (celAt cs q).v2 k → k = pb ∨ ∃ c, (q, c) ∈ cs ∧ getM cs q = some c ∧ c.has k := by
    rintro k (rfl | hk | hk)
    · exact .inl rfl
    · exact .inr (hold k (.inl hk))
    · exact .inr (hold k (.inr hk))
  have haddGF : ∀ k, addF pb (celAt cs q).v1 (celAt cs q).v2 k → k = pb ∨ GF gb mb cs k := fun k hk => (hadd k hk).imp id fun ⟨c, hm, _, hk⟩ => .inr (.inr ⟨_, hm, hk⟩)
  have hkeep : ∀ k, k < w5.heap.size → k ≠ pb → (∀ c, getM cs q = some c → ¬ c.has k) → w6.heap[k]? = w5.heap[k]? := fun k hk hp hn => mv.block k hk fun ha => by
    rcases hadd k ha with e | ⟨c, _, hg, hh⟩
    · exact hp e
    · exact hn c hg hh
  have hmb6 : w6.heap[mb]? = w5.heap[mb]? := hkeep mb h.map.lt (fun e => hpb (by rw [← e]; exact .inr (.inl rfl))) fun c hg hh => by
    obtain ⟨⟨es, clock, hb, _⟩, _⟩ := h.map
    exact (h.cel _ (getM_mem hg)).1.neMap hh hb
  have hgb6 : w6.heap[gb]? = w5.heap[gb]? := hkeep gb h.lt (fun e => hpb (by rw [← e]; exact .inl rfl)) fun c hg hh => (h.cel _ (getM_mem hg)).1.ne hh h.box (by decide) (by decide)
  have hmap6 := h.map.keep hmb6
  have hbox6 := hgb6.trans h.box
  have hcel6 : ∀ x ∈ cs, x.1 ≠ q → CelW w6 B x.2 := fun x hx hxq => (h.cel x hx).1.keep fun k hk => hkeep k ((h.cel x hx).1.has hk).2 (fun e => hpb (by rw [← e]; exact .inr (.inr ⟨x, hx, hk⟩))) fun c hg hh => apart_at h hg hx hxq k hh hk
  have hchas : ∀ k, c'.has k → (∃ c, getM cs q = some c ∧ c.has k) ∨ w5.heap.size ≤ k := by
    rintro k (hk | hk)
    · rcases h1 with e | ⟨j, e, hj⟩
      · rw [e] at hk; exact .inl (celAt_has (.inl hk))
      · rw [e] at hk; cases hk; exact .inr hj
    · rcases h2 with e | ⟨j, e, hj⟩
      · rw [e] at hk; exact .inl (celAt_has (.inr hk))
      · rw [e] at hk; cases hk; exact .inr hj
  have hcmb : ∀ k, c'.has k → k ≠ mb ∧ k ≠ gb := by
    intro k hk
    refine ⟨?_, ?_⟩
    · rintro rfl
      obtain ⟨⟨es, clock, hb, _⟩, _⟩ := hmap6
      exact hc.neMap hk hb
    · rintro rfl
      exact hc.ne hk hbox6 (by decide) (by decide)
  refine ⟨hmap6, hbox6, ?_, ?_, haddGF, fun k hk => (hchas k hk).imp (fun ⟨c, hg, hh⟩ => .inr (.inr ⟨_, getM_mem hg, hh⟩)) id, hcmb⟩
  · intro w7 hm7 hg7
    have hk7 : ∀ k, k < w6.heap.size → k ≠ mb → w7.heap[k]? = w6.heap[k]? := fun k hk hkm => hg7.block k hk (fun e => hkm (Option.some.inj e))
    have hcel7 : ∀ c : Cel, CelW w6 B c → CelW w7 B c := fun c hc => hc.keep fun k hk => hk7 k (hc.has hk).2 (fun e => by
      subst e
      obtain ⟨⟨es, clock, hb, _⟩, _⟩ := hmap6
      exact hc.neMap hk hb)
    refine ⟨⟨(hk7 gb (Nat.lt_of_lt_of_le h.lt mv.size) hne).trans hbox6, ?_, ?_, ?_, h.bg, h.bm⟩, ?_⟩
    · rw [← putM_map (fun c : Cel => c.val) q c' cs]
      exact hm7
    · intro x hx
      rcases mem_putM hx with rfl | ⟨hx, hxq⟩
      · exact ⟨hcel7 _ hc, hok⟩
      · rcases hxq with hxq | hxq
        · exact ⟨hcel7 _ (hcel6 x hx hxq), (h.cel x hx).2⟩
        · exact absurd h.nodup hxq
    · refine putM_pairwise (R := fun x y : Plc × Cel => ∀ k, x.2.has k → ¬ y.2.has k) (fun x y h k a b => h k b a) h.nodup h.apart ?_
      intro y hy hyq k hk hyk
      rcases hchas k hk with ⟨c, hg, hh⟩ | hge
      · exact apart_at h hg hy hyq k hh hyk
      · have := ((h.cel y hy).1.has hyk).2
        omega
    · rintro k (rfl | rfl | ⟨x, hx, hk⟩)
      · exact .inl (.inl rfl)
      · exact .inl (.inr (.inl rfl))
      · rcases mem_putM hx with rfl | ⟨hx, _⟩
        · rcases hchas k hk with ⟨c, hg, hh⟩ | hge
          · exact .inl (.inr (.inr ⟨_, getM_mem hg, hh⟩))
          · exact .inr hge
        · exact .inl (.inr (.inr ⟨x, hx, hk⟩))
  · intro w7 hm7 hg7
    have hk7 : ∀ k, k < w6.heap.size → k ≠ mb → w7.heap[k]? = w6.heap[k]? := fun k hk hkm => hg7.block k hk (fun e => hkm (Option.some.inj e))
    refine ⟨⟨(hk7 gb (Nat.lt_of_lt_of_le h.lt mv.size) hne).trans hbox6, ?_, ?_, ?_, h.bg, h.bm⟩, ?_⟩
    · rw [← delM_map (fun c : Cel => c.val) q cs]
      exact hm7
    · intro x hx
      have hxc := delM_sub.subset hx
      have hxq := delM_ne h.nodup x hx
      have hcx := hcel6 x hxc hxq
      refine ⟨hcx.keep fun k hk => hk7 k (hcx.has hk).2 (fun e => ?_), (h.cel x hxc).2⟩
      subst e
      obtain ⟨⟨es, clock, hb, _⟩, _⟩ := hmap6
      exact hcx.neMap hk hb
    · exact h.apart.sublist delM_sub
    · rintro k (rfl | rfl | ⟨x, hx, hk⟩)
      · exact .inl rfl
      · exact .inr (.inl rfl)
      · exact .inr (.inr ⟨x, delM_sub.subset hx, hk⟩)

end Go.Proofs.Ytocankfabgjjmaa
