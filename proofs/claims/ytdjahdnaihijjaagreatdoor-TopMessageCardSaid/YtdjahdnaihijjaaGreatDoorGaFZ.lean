/-
  Texts, together: GaF, GaG, GaH.
  Conditions: none but sizes.
-/
import Derived.Test.YtdjahdnaihijjaaGreatDoorGaDZ
import Derived.Deep.RegionWith
import Derived.StillTailTactics
import Derived.Deep.CutRange
import Derived.Deep.CutBlock
import Derived.Deep.DeepCutAuto
/-
  How a gatherer lies in memory; what a frame added leaves of it. The contracts of gather.New and Open.
  Conditions: none but sizes.
-/
namespace Go.Proofs.YtdjahdnaihijjaaGreatDoor
open Go.RowKit
set_option linter.unusedVariables false
set_option linter.unusedSimpArgs false

theorem results_c3 {P : Program} {fn : Func} {p u v : Tmp} {ty : TypeId} (h : fn.results = #[.cell p ty, .tmp u, .tmp v]) (tmps : Array Value) (w : World) (g : Nat) (t : TypeId) (cs : Array Value) (fr : Nat × Nat) (d : TypeDesc)
    (hp : tmps.getD p undef = .pointer (some ⟨g, 0, none⟩)) (hg : w.heap[g]? = some (.cells cs t fr))
    (hu : P.underlying ty = some d) (hd : (match d with | .struct _ | .array _ _ => true | _ => false) = true) (hi : (P.info? ty).map (·.size) = some cs.size) :
    (results fn tmps).run P w = .ok (.tuple #[.agg cs, tmps.getD u undef, tmps.getD v undef]) w := by
  have hp' : tmps[p]?.getD undef = .pointer (some ⟨g, 0, none⟩) := by simpa using hp
  simp [results, h, hp', asAddr, run_loadVar_row w g t ty cs fr d hg hu hd hi]

/-! ### Without the program: what is open stays right -/
/-- What is open is right: its segments are few, begin in order, and its bytes are not too many. -/
structure PtOk (p : Pt) : Prop where
  segs : p.segs.length ≤ p.head.t + 1
  head : p.head.t ≤ 3
  bytes : p.bytes.length ≤ 16384
  mono : ∀ k (h : k < p.segs.length), p.segs[k].2 ≤ endAt p.bytes p.segs (k + 1)
  ends : ∀ j, endAt p.bytes p.segs j ≤ p.bytes.length

theorem checkF_zero {f : Fr} (h : checkF f = 0) : f.t ≤ 3 ∧ f.k ≤ 15 ∧ f.p.size ≤ 4084 := by
  unfold checkF at h
  split at h
  · cases h
  · omega

theorem refused_zero {f : Fr} {o : Option Pt} (h : refusedD f o = 0) : checkF f = 0 ∧ fitsD f o = true ∧ (o.getD pt0).bytes.length + f.p.size ≤ 16384 := by
  unfold refusedD at h
  split at h
  · omega
  · rename_i h1
    split at h
    · omega
    · rename_i h2
      split at h
      · omega
      · rename_i h3
        exact ⟨by omega, by simpa using h2, by omega⟩

theorem endAt_le {bytes : List UInt8} {segs : List (Nat × Nat)} (h : ∀ k (h : k < segs.length), segs[k].2 ≤ bytes.length) (j : Nat) : endAt bytes segs j ≤ bytes.length := by
  unfold endAt
  split
  · exact h _ _
  · exact Nat.le_refl _

theorem PtOk.froms {p : Pt} (h : PtOk p) : ∀ k (hk : k < p.segs.length), p.segs[k].2 ≤ p.bytes.length := fun k hk => Nat.le_trans (h.mono k hk) (h.ends _)

theorem PtOk.grown {p : Pt} (h : PtOk p) (f : Fr) (hl : p.bytes.length + f.p.size ≤ 16384) (hh : (p.add f).segs.length ≤ (p.add f).head.t + 1 ∧ (p.add f).head.t ≤ 3) : PtOk (p.add f) := by
  have hfr := h.froms
  have hlen : (p.add f).bytes.length = p.bytes.length + f.p.size := by simp [Pt.add, sb_length]
  have hall : ∀ k (hk : k < (p.add f).segs.length), (p.add f).segs[k].2 ≤ (p.add f).bytes.length := by
    intro k hk
    rw [hlen]
    by_cases hkl : k < p.segs.length
    · have : (p.add f).segs[k] = p.segs[k] := by simp [Pt.add, List.getElem_append_left hkl]
      rw [this]
      have := hfr k hkl
      omega
    · simp only [Pt.add] at hk ⊢
      by_cases hc : f.c = true
      · simp only [hc, if_true] at hk ⊢
        rw [List.getElem_append_right (by omega)]
        simp
      · simp [hc] at hk
        omega
  refine ⟨hh.1, hh.2, by omega, ?_, endAt_le hall⟩
  intro k hk
  by_cases hc : f.c = true
  · have hs : (p.add f).segs = p.segs ++ [(f.t, p.bytes.length)] := by simp [Pt.add, hc]
    by_cases hkl : k < p.segs.length
    · have e1 : (p.add f).segs[k] = p.segs[k] := by simp [Pt.add, List.getElem_append_left hkl]
      rw [e1]
      by_cases hk1 : k + 1 < p.segs.length
      · have := h.mono k hkl
        have e2 : endAt (p.add f).bytes (p.add f).segs (k + 1) = endAt p.bytes p.segs (k + 1) := by
          unfold endAt
          rw [dif_pos hk1, dif_pos (by rw [hs]; simp; omega)]
          simp [Pt.add, List.getElem_append_left hk1]
        omega
      · have hk1' : k + 1 = p.segs.length := by omega
        have e2 : endAt (p.add f).bytes (p.add f).segs (k + 1) = p.bytes.length := by
          unfold endAt
          rw [dif_pos (by rw [hs]; simp; omega)]
          simp only [hs]
          rw [List.getElem_append_right (by omega)]
          simp
        have := hfr k hkl
        omega
    · have hkk : k = p.segs.length := by rw [hs] at hk; simp at hk; omega
      have e2 : endAt (p.add f).bytes (p.add f).segs (k + 1) = (p.add f).bytes.length := by
        unfold endAt
        rw [dif_neg (by rw [hs]; simp; omega)]
      rw [e2]
      exact hall k hk
  · have hs : (p.add f).segs = p.segs := by simp [Pt.add, hc]
    have hkl : k < p.segs.length := by rw [hs] at hk; exact hk
    have e1 : (p.add f).segs[k] = p.segs[k] := by simp [hs]
    rw [e1]
    by_cases hk1 : k + 1 < p.segs.length
    · have := h.mono k hkl
      have e2 : endAt (p.add f).bytes (p.add f).segs (k + 1) = endAt p.bytes p.segs (k + 1) := by
        unfold endAt
        rw [dif_pos hk1, dif_pos (by rw [hs]; exact hk1)]
        simp [hs]
      omega
    · have e2 : endAt (p.add f).bytes (p.add f).segs (k + 1) = (p.add f).bytes.length := by
        unfold endAt
        rw [dif_neg (by rw [hs]; exact hk1)]
      have := hfr k hkl
      omega

theorem ptOk0 (t : Nat) : PtOk { pt0 with head := { fr0 with t := 0 } } :=
  ⟨by simp [pt0], by simp, by simp [pt0], fun k hk => by simp [pt0] at hk, fun j => by simp [endAt, pt0]⟩

/-- What is open, with one frame more. -/
theorem PtOk.added {f : Fr} {o : Option Pt} (h : ∀ p, o = some p → PtOk p) (hr : refusedD f o = 0) : PtOk ((o.getD pt0).add f) := by
  obtain ⟨hc, hfit, hl⟩ := refused_zero hr
  obtain ⟨ht, _, _⟩ := checkF_zero hc
  cases o with
  | none =>
    have h0 : PtOk pt0 := ptOk0 0
    refine h0.grown f hl ?_
    simp only [fitsD, Bool.and_eq_true] at hfit
    have hfc : f.c = true := hfit.1.1.2
    simp [Pt.add, hfc, pt0]
    omega
  | some p =>
    have h0 := h p rfl
    refine h0.grown f hl ?_
    have hs := h0.segs
    have hh := h0.head
    simp only [fitsD] at hfit
    by_cases hw : p.whole = false
    · rw [if_pos hw] at hfit
      simp only [Bool.and_eq_true] at hfit
      have hfc : f.c = false := by simpa using hfit.1.1.1
      simp [Pt.add, hfc]
      omega
    · rw [if_neg hw] at hfit
      simp only [Bool.and_eq_true, decide_eq_true_eq] at hfit
      have hfc : f.c = true := hfit.1.1
      simp [Pt.add, hfc]
      omega

/-! ### In memory -/
/-- What stands at a place, and its two rows. -/
structure Cel where
  p : Pt
  v1 : Value
  v2 : Value
def Cel.val (c : Cel) : Value := .agg (ptVs c.v1 c.v2 c.p.head c.p.whole).toArray
def Cel.has (c : Cel) (k : Nat) : Prop := c.v1.ownBlock = some k ∨ c.v2.ownBlock = some k
def cel0 : Cel := ⟨pt0, .slice none 0 0, .slice none 0 0⟩

structure CelW (w : World) (B : Nat) (c : Cel) : Prop where
  o1 : OwnG sgmC 115 w B c.v1 c.p.segs
  o2 : Own 5 w B c.v2 c.p.bytes
theorem CelW.zero (w : World) (B : Nat) : CelW w B cel0 := ⟨OwnG.nil_ _ _ _ _, Own.nil_ _ _ _⟩
theorem CelW.keep {w w' : World} {B : Nat} {c : Cel} (h : CelW w B c) (hk : ∀ k, c.has k → w'.heap[k]? = w.heap[k]?) : CelW w' B c :=
  ⟨h.o1.keep fun g hg => hk g (.inl hg), h.o2.keep fun g hg => hk g (.inr hg)⟩
theorem CelW.has {w : World} {B k : Nat} {c : Cel} (h : CelW w B c) (hk : c.has k) : B ≤ k ∧ k < w.heap.size := by
  rcases hk with hk | hk
  · exact h.o1.block k hk
  · exact h.o2.block k hk
theorem CelW.ne {w : World} {B k : Nat} {c : Cel} (h : CelW w B c) (hk : c.has k) {cs : Array Value} {e : TypeId} {fr : Nat × Nat} (hb : w.heap[k]? = some (.cells cs e fr)) (h1 : 115 ≠ e) (h2 : 5 ≠ e) : False := by
  rcases hk with hk | hk
  · exact own_ne h.o1 hb h1 hk
  · exact own8_ne h.o2 hb h2 hk
theorem CelW.neMap {w : World} {B k : Nat} {c : Cel} (h : CelW w B c) (hk : c.has k) {es : Array MapEntry} {clock : Nat} (hb : w.heap[k]? = some (.map es clock)) : False := by
  rcases hk with hk | hk
  · rcases h.o1.2 with ⟨e, _⟩ | ⟨g, cap, cur, e, _, hg, _⟩
    · rw [e] at hk; cases hk
    · rw [e] at hk; cases hk; rw [hg] at hb; injection hb with hb; cases hb
  · rcases h.o2.2 with ⟨e, _⟩ | ⟨g, cap, cur, e, _, hg, _⟩
    · rw [e] at hk; cases hk
    · rw [e] at hk; cases hk; rw [hg] at hb; injection hb with hb; cases hb

/-- The gatherer's blocks. -/
def GF (gb mb : Nat) (cs : List (Plc × Cel)) (k : Nat) : Prop := k = gb ∨ k = mb ∨ ∃ x ∈ cs, x.2.has k

/-- A gatherer that is alive. -/
structure GL (w : World) (B gb mb : Nat) (cs : List (Plc × Cel)) : Prop where
  box : w.heap[gb]? = some (.cells #[.int .u8 1, .map (some mb)] 79 (0, 0))
  map : MapIs w mb (cs.map fun x => (x.1, x.2.val))
  cel : ∀ x ∈ cs, CelW w B x.2 ∧ PtOk x.2.p
  apart : cs.Pairwise fun x y => ∀ k, x.2.has k → ¬ y.2.has k
  bg : B ≤ gb
  bm : B ≤ mb

section
variable {w w' : World} {B gb mb : Nat} {cs : List (Plc × Cel)}
theorem GL.lt (h : GL w B gb mb cs) : gb < w.heap.size := (Array.getElem?_eq_some_iff.1 h.box).1
theorem GL.ne (h : GL w B gb mb cs) : gb ≠ mb := by
  obtain ⟨⟨es, clock, hb, _⟩, _⟩ := h.map
  intro e
  rw [← e, h.box] at hb
  injection hb with hb
  cases hb
theorem GL.foot (h : GL w B gb mb cs) : ∀ k, GF gb mb cs k → B ≤ k ∧ k < w.heap.size := by
  rintro k (rfl | rfl | ⟨x, hx, hk⟩)
  · exact ⟨h.bg, h.lt⟩
  · exact ⟨h.bm, h.map.lt⟩
  · exact (h.cel x hx).1.has hk
theorem GL.keep (h : GL w B gb mb cs) (hk : ∀ k, GF gb mb cs k → w'.heap[k]? = w.heap[k]?) : GL w' B gb mb cs :=
  ⟨(hk gb (.inl rfl)).trans h.box, h.map.keep (hk mb (.inr (.inl rfl))), fun x hx => ⟨(h.cel x hx).1.keep fun k hk' => hk k (.inr (.inr ⟨x, hx, hk'⟩)), (h.cel x hx).2⟩, h.apart, h.bg, h.bm⟩
theorem GL.nodup (h : GL w B gb mb cs) : (cs.map (·.1)).Nodup := by
  have := h.map.2.2
  rwa [List.map_map] at this
theorem GL.c0 (h : GL w B gb mb cs) : w.cell? ⟨gb, 0, none⟩ = some (.int .u8 1) := by rw [cell_of_row w gb _ _ 79 (0, 0) h.box]; rfl
theorem GL.c1 (h : GL w B gb mb cs) : w.cell? ⟨gb, 1, none⟩ = some (.map (some mb)) := by rw [cell_of_row w gb _ _ 79 (0, 0) h.box]; rfl
theorem GL.fr (h : GL w B gb mb cs) (i : Nat) : w.frozen? ⟨gb, i, none⟩ = false := frozen_of_row w gb i _ 79 h.box
end

/-- The cell at a place. -/
def celAt (cs : List (Plc × Cel)) (q : Plc) : Cel := (getM cs q).getD cel0
theorem celAt_w {w : World} {B gb mb : Nat} {cs : List (Plc × Cel)} (h : GL w B gb mb cs) (q : Plc) : CelW w B (celAt cs q) := by
  unfold celAt
  cases hq : getM cs q with
  | none => exact CelW.zero w B
  | some c => exact (h.cel _ (getM_mem hq)).1
theorem celAt_p (cs : List (Plc × Cel)) (q : Plc) : (celAt cs q).p = ((getM (cs.map fun x => (x.1, x.2.p)) q).getD pt0) := by
  unfold celAt
  rw [getM_map]
  cases getM cs q <;> rfl
theorem celAt_ok {w : World} {B gb mb : Nat} {cs : List (Plc × Cel)} (h : GL w B gb mb cs) (q : Plc) : ∀ p, getM (cs.map fun x => (x.1, x.2.p)) q = some p → PtOk p := by
  intro p hp
  rw [getM_map] at hp
  cases hq : getM cs q with
  | none => rw [hq] at hp; cases hp
  | some c =>
    rw [hq] at hp
    cases hp
    exact (h.cel _ (getM_mem hq)).2
theorem celAt_has {cs : List (Plc × Cel)} {q : Plc} {k : Nat} (h : (celAt cs q).has k) : ∃ c, getM cs q = some c ∧ c.has k := by
  unfold celAt at h
  cases hq : getM cs q with
  | none => rw [hq] at h; rcases h with h | h <;> cases h
  | some c => rw [hq] at h; exact ⟨c, rfl, h⟩
theorem zeroPt (w : World) : (zeroValue 85).run Tryz.prog w = .ok cel0.val w := by kernel_rfl

theorem GL.look {w : World} {B gb mb : Nat} {cs : List (Plc × Cel)} (h : GL w B gb mb cs) {q : Plc} (hq : smallP q) :
    (Instr.lookup 77 (.map (some mb)) (keyV q) true).run Tryz.prog w = .ok (.tuple #[(celAt cs q).val, .bool (getM cs q).isSome]) w := by
  rw [h.map.look hq (zeroPt w), getM_map]
  unfold celAt
  cases getM cs q <;> rfl

section
variable {α : Type} {R : Plc × α → Plc × α → Prop}
theorem putM_pairwise {q : Plc} {v : α} (hs : ∀ x y, R x y → R y x) : ∀ {L : List (Plc × α)}, (L.map (·.1)).Nodup → L.Pairwise R → (∀ y ∈ L, y.1 ≠ q → R (q, v) y) → (putM L q v).Pairwise R
  | [], _, _, _ => by simp [putM]
  | x :: r, hn, h, hv => by
    rw [List.map_cons, List.nodup_cons] at hn
    rw [List.pairwise_cons] at h
    unfold putM
    split
    · rename_i e
      refine List.pairwise_cons.2 ⟨fun y hy => hv y (by simp [hy]) fun e2 => ?_, h.2⟩
      exact hn.1 (by rw [e, ← e2]; exact List.mem_map.2 ⟨_, hy, rfl⟩)
    · rename_i e
      refine List.pairwise_cons.2 ⟨fun y hy => ?_, putM_pairwise hs hn.2 h.2 fun y hy => hv y (by simp [hy])⟩
      rcases mem_putM hy with rfl | ⟨hy, _⟩
      · exact hs _ _ (hv x (by simp) e)
      · exact h.1 y hy
end

theorem apart_at {w : World} {B gb mb : Nat} {cs : List (Plc × Cel)} (h : GL w B gb mb cs) {q : Plc} {c : Cel} (hc : getM cs q = some c) {y : Plc × Cel} (hy : y ∈ cs) (hne : y.1 ≠ q) (k : Nat) (hk : c.has k) : ¬ y.2.has k := by
  have hsym : ∀ x y : Plc × Cel, (∀ k, x.2.has k → ¬ y.2.has k) → (∀ k, y.2.has k → ¬ x.2.has k) := fun x y h k h1 h2 => h k h2 h1
  have hxm := getM_mem hc
  have := List.Pairwise.forall_of_forall_of_flip (R := fun x y : Plc × Cel => x.1 ≠ y.1 → ∀ k, x.2.has k → ¬ y.2.has k) (l := cs) (fun x hx hne => absurd rfl hne)
    (h.apart.imp (fun {a b} h (_ : a.1 ≠ b.1) => h)) (h.apart.imp (fun {a b} h (_ : b.1 ≠ a.1) k h1 h2 => h k h2 h1))
  exact this hxm hy (fun e => hne e.symm) k hk

/-- A gatherer that is dead. -/
def GD (w : World) (gb : Nat) : Prop := w.heap[gb]? = some (.cells #[.int .u8 2, .map none] 79 (0, 0))

/-- A gatherer with what is open in it (none: it is dead), and its blocks. -/
def GW (w : World) (B gb : Nat) (o : Option (List (Plc × Pt))) (F : Nat → Prop) : Prop :=
  match o with
  | none => GD w gb ∧ B ≤ gb ∧ F = fun k => k = gb
  | some M => ∃ mb cs, GL w B gb mb cs ∧ M = cs.map (fun x => (x.1, x.2.p)) ∧ F = GF gb mb cs

theorem GW.foot {w : World} {B gb : Nat} {o : Option (List (Plc × Pt))} {F : Nat → Prop} (h : GW w B gb o F) : ∀ k, F k → B ≤ k ∧ k < w.heap.size := by
  cases o with
  | none =>
    obtain ⟨h1, h2, rfl⟩ := h
    rintro k rfl
    exact ⟨h2, (Array.getElem?_eq_some_iff.1 h1).1⟩
  | some M =>
    obtain ⟨mb, cs, h1, _, rfl⟩ := h
    exact h1.foot
theorem GW.keep {w w' : World} {B gb : Nat} {o : Option (List (Plc × Pt))} {F : Nat → Prop} (h : GW w B gb o F) (hk : ∀ k, F k → w'.heap[k]? = w.heap[k]?) : GW w' B gb o F := by
  cases o with
  | none =>
    obtain ⟨h1, h2, rfl⟩ := h
    exact ⟨(hk gb rfl).trans h1, h2, rfl⟩
  | some M =>
    obtain ⟨mb, cs, h1, h2, rfl⟩ := h
    exact ⟨mb, cs, h1.keep hk, h2, rfl⟩

set_option maxRecDepth 100000 in
theorem new_any (w : World) : Calls Tryz.prog 7 #[] w fun e w' => ∃ gb F, e = .returned (.pointer (some ⟨gb, 0, none⟩)) ∧ GW w' w.heap.size gb (some []) F ∧ Below w.heap.size w w' := by
  have hmm := @run_makeMap Tryz.prog
  go_enter Tryz.func7, Tryz.ntmps7
  go_wp2_with fail
  go_ret
  refine ⟨_, _, rfl, ⟨w.heap.size, [], ⟨?_, ?_, by simp, by simp, by simp, Nat.le_refl _⟩, rfl, rfl⟩, ?_⟩
  · have := heap_alloc_new (w.alloc (.map #[] 0)) (.cells #[.int .u8 1, .map (some w.heap.size)] 79)
    simpa using this
  · refine (MapIs.new w).keep ?_
    exact Below.heap_alloc _ _ _ (by simp)
  · exact (f_below_box w _).alloc (by simp) _

end Go.Proofs.YtdjahdnaihijjaaGreatDoor
/-
  The contracts of Open of gather's Gather, and of Feed where it refuses.
  Conditions: none but sizes.
-/
namespace Go.Proofs.YtdjahdnaihijjaaGreatDoor
open Go.RowKit
set_option linter.unusedVariables false
set_option linter.unusedSimpArgs false

/-- How much is open. -/
def openN (o : Option (List (Plc × Pt))) : Nat := match o with | none => 0 | some M => M.length


/-- An answer's value. -/
def ansV (a : Ans) (v : Value) : Value := .tuple #[.agg #[.int .u16 a.ch, .int .u8 a.k, v], .bool a.is, .int .i64 a.e]

set_option maxRecDepth 100000 in
theorem feed_nil (f : Fr) (w : World) : Calls Tryz.prog 9 #[.pointer none, .agg f.vs.toArray] w fun e w' => e = .returned (ansV (ans0 1) (.slice none 0 0)) ∧ Below w.heap.size w w' := by
  obtain ⟨fa, fb, fc, fd, ft, fk, fch, fp⟩ := f
  simp only [Fr.vs]
  go_enter Tryz.func9, Tryz.ntmps9
  go_wp2_with fail
  refine bodyPost_ret (results_c3 rfl _ _ (w.heap.size + 1) 41 _ (0, 0) _ rfl (by have := heap_alloc_new (w.alloc (Obj.cells #[.bool fa, .bool fb, .bool fc, .bool fd, .int .u8 ft, .int .u8 fk, .int .u16 fch, .string fp] 51)) (Obj.cells #[.int .u16 0, .int .u8 0, .slice none 0 0] 41); rwa [World.size_alloc] at this) Tryz.underlying41 rfl (by kernel_rfl)) rfl ⟨rfl, (f_below_box w _).alloc (by simp) _⟩

set_option maxRecDepth 100000 in
theorem feed_unmade (f : Fr) (gb : Nat) (w : World) (h : w.heap[gb]? = some (.cells #[.int .u8 0, .map none] 79 (0, 0))) : Calls Tryz.prog 9 #[.pointer (some ⟨gb, 0, none⟩), .agg f.vs.toArray] w fun e w' => e = .returned (ansV (ans0 1) (.slice none 0 0)) ∧ Below w.heap.size w w' := by
  obtain ⟨fa, fb, fc, fd, ft, fk, fch, fp⟩ := f
  simp only [Fr.vs]
  have hb2 := fun o o' => (f_below_box w o).alloc (by simp) o'
  have c0 := fun o o' => ((hb2 o o').cell (p := ⟨gb, 0, none⟩) (Array.getElem?_eq_some_iff.1 h).1).trans (show w.cell? ⟨gb, 0, none⟩ = some (.int .u8 0) by rw [cell_of_row w gb _ _ 79 (0, 0) h]; rfl)
  have c0' := c0 (Obj.cells #[.bool fa, .bool fb, .bool fc, .bool fd, .int .u8 ft, .int .u8 fk, .int .u16 fch, .string fp] 51) (Obj.cells #[.int .u16 0, .int .u8 0, .slice none 0 0] 41)
  have HB := Lib.hid hb2
  clear h hb2 c0
  go_enter Tryz.func9, Tryz.ntmps9
  go_wp2_with fail
  refine bodyPost_ret (results_c3 rfl _ _ (w.heap.size + 1) 41 _ (0, 0) _ rfl (by have := heap_alloc_new (w.alloc (Obj.cells #[.bool fa, .bool fb, .bool fc, .bool fd, .int .u8 ft, .int .u8 fk, .int .u16 fch, .string fp] 51)) (Obj.cells #[.int .u16 0, .int .u8 0, .slice none 0 0] 41); rwa [World.size_alloc] at this) Tryz.underlying41 rfl (by kernel_rfl)) rfl ⟨rfl, HB.out _ _⟩

set_option maxRecDepth 100000 in
theorem feed_dead (f : Fr) (gb : Nat) (w : World) (h : GD w gb) : Calls Tryz.prog 9 #[.pointer (some ⟨gb, 0, none⟩), .agg f.vs.toArray] w fun e w' => e = .returned (ansV (ans0 9) (.slice none 0 0)) ∧ Below w.heap.size w w' := by
  obtain ⟨fa, fb, fc, fd, ft, fk, fch, fp⟩ := f
  simp only [Fr.vs]
  have hb2 := fun o o' => (f_below_box w o).alloc (by simp) o'
  have c0 := fun o o' => ((hb2 o o').cell (p := ⟨gb, 0, none⟩) (Array.getElem?_eq_some_iff.1 h).1).trans (show w.cell? ⟨gb, 0, none⟩ = some (.int .u8 2) by rw [cell_of_row w gb _ _ 79 (0, 0) h]; rfl)
  have c0' := c0 (Obj.cells #[.bool fa, .bool fb, .bool fc, .bool fd, .int .u8 ft, .int .u8 fk, .int .u16 fch, .string fp] 51) (Obj.cells #[.int .u16 0, .int .u8 0, .slice none 0 0] 41)
  have HB := Lib.hid hb2
  clear h hb2 c0
  go_enter Tryz.func9, Tryz.ntmps9
  go_wp2_with fail
  refine bodyPost_ret (results_c3 rfl _ _ (w.heap.size + 1) 41 _ (0, 0) _ rfl (by have := heap_alloc_new (w.alloc (Obj.cells #[.bool fa, .bool fb, .bool fc, .bool fd, .int .u8 ft, .int .u8 fk, .int .u16 fch, .string fp] 51)) (Obj.cells #[.int .u16 0, .int .u8 0, .slice none 0 0] 41); rwa [World.size_alloc] at this) Tryz.underlying41 rfl (by kernel_rfl)) rfl ⟨rfl, HB.out _ _⟩

/-- What Feed of one that is alive tells. -/
def FeedSaid (w : World) (B gb : Nat) (F : Nat → Prop) (r : Ans × Option (List (Plc × Pt))) (e : Ending) (w' : World) : Prop :=
  ∃ v F', e = .returned (ansV r.1 v) ∧ OwnG sgC 38 w' w.heap.size v r.1.l ∧ GW w' B gb r.2 F' ∧ (∀ k, F' k → F k ∨ w.heap.size ≤ k) ∧ Moved F w w'

/-- The world ahead of the look-up. -/
def w3 (w : World) (f : Fr) : World := ((w.alloc (Obj.cells #[.bool f.a, .bool f.b, .bool f.c, .bool f.d, .int .u8 f.t, .int .u8 f.k, .int .u16 f.ch, .string f.p] 51)).alloc (Obj.cells #[.int .u16 0, .int .u8 0, .slice none 0 0] 41)).alloc (Obj.cells #[.int .u16 f.ch, .int .u16 f.k] 82)

structure W3 (w W : World) (f : Fr) : Prop where
  fr : BoxF W w.heap.size f
  asm : BoxA W (w.heap.size + 1) 0 0 (.slice none 0 0)
  key : W.heap[w.heap.size + 1 + 1]? = some (.cells #[.int .u16 f.ch, .int .u16 f.k] 82 (0, 0))
  bel : Below w.heap.size w W
theorem W3.of (w : World) (f : Fr) : W3 w (w3 w f) f ∧ (w3 w f).heap.size = w.heap.size + 1 + 1 + 1 := by
  refine ⟨⟨?_, ?_, ?_, ?_⟩, by simp [w3]⟩
  · exact ((BoxF.new w f).kept (f_below_box _ _) (Nat.le_refl _)).kept (f_below_box _ _) (Nat.le_refl _)
  · have := BoxA.new (w.alloc (Obj.cells #[.bool f.a, .bool f.b, .bool f.c, .bool f.d, .int .u8 f.t, .int .u8 f.k, .int .u16 f.ch, .string f.p] 51)) 0 0 (.slice none 0 0)
    rw [World.size_alloc] at this
    exact this.kept (f_below_box _ _) (Nat.le_refl _)
  · have := heap_alloc_new ((w.alloc (Obj.cells #[.bool f.a, .bool f.b, .bool f.c, .bool f.d, .int .u8 f.t, .int .u8 f.k, .int .u16 f.ch, .string f.p] 51)).alloc (Obj.cells #[.int .u16 0, .int .u8 0, .slice none 0 0] 41)) (Obj.cells #[.int .u16 f.ch, .int .u16 f.k] 82)
    rw [World.size_alloc, World.size_alloc] at this
    exact this
  · exact ((f_below_box w _).alloc (by simp) _).alloc (by simp; omega) _

theorem celAt_opt (cs : List (Plc × Cel)) (q : Plc) : (if (getM cs q).isSome = true then some (celAt cs q).p else none) = getM (cs.map fun x => (x.1, x.2.p)) q := by
  unfold celAt
  rw [getM_map]
  cases getM cs q <;> rfl

/-- A frame is added to what stands at a place: the gatherer behind the store, and behind the deletion. -/
theorem GL.add {w5 w6 : World} {B gb mb pb : Nat} {cs : List (Plc × Cel)} (h : GL w5 B gb mb cs) {q : Plc} (hB : B ≤ w5.heap.size) (hpb : ¬ GF gb mb cs pb) {c' : Cel} (hc : CelW w6 B c') (hok : PtOk c'.p)
    (h1 : c'.v1.ownBlock = (celAt cs q).v1.ownBlock ∨ ∃ k, c'.v1.ownBlock = some k ∧ w5.heap.size ≤ k) (h2 : c'.v2.ownBlock = (celAt cs q).v2.ownBlock ∨ ∃ k, c'.v2.ownBlock = some k ∧ w5.heap.size ≤ k)
    (mv : Moved (addF pb (celAt cs q).v1 (celAt cs q).v2) w5 w6) :
    MapIs w6 mb (cs.map fun x => (x.1, x.2.val)) ∧ w6.heap[gb]? = some (.cells #[.int .u8 1, .map (some mb)] 79 (0, 0)) ∧
    (∀ w7, MapIs w7 mb (putM (cs.map fun x => (x.1, x.2.val)) q c'.val) → w6.grownBy w7 (some mb) → GL w7 B gb mb (putM cs q c') ∧ (∀ k, GF gb mb (putM cs q c') k → GF gb mb cs k ∨ w5.heap.size ≤ k)) ∧
    (∀ w7, MapIs w7 mb (delM (cs.map fun x => (x.1, x.2.val)) q) → w6.grownBy w7 (some mb) → GL w7 B gb mb (delM cs q) ∧ (∀ k, GF gb mb (delM cs q) k → GF gb mb cs k)) ∧
    (∀ k, addF pb (celAt cs q).v1 (celAt cs q).v2 k → k = pb ∨ GF gb mb cs k) ∧ (∀ k, c'.has k → GF gb mb cs k ∨ w5.heap.size ≤ k) ∧ (∀ k, c'.has k → k ≠ mb ∧ k ≠ gb) := by
  have hne := h.ne
  have hold : ∀ k, (celAt cs q).has k → ∃ c, (q, c) ∈ cs ∧ getM cs q = some c ∧ c.has k := fun k hk => by
    obtain ⟨c, h1, h2⟩ := celAt_has hk
    exact ⟨c, getM_mem h1, h1, h2⟩
  have hadd : ∀ k, addF pb (celAt cs q).v1 (celAt cs q).v2 k → k = pb ∨ ∃ c, (q, c) ∈ cs ∧ getM cs q = some c ∧ c.has k := by
    rintro k (rfl | hk | hk)
    · exact .inl rfl
    · exact .inr (hold k (.inl hk))
    · exact .inr (hold k (.inr hk))
  have haddGF : ∀ k, addF pb (celAt cs q).v1 (celAt cs q).v2 k → k = pb ∨ GF gb mb cs k := fun k hk => (hadd k hk).imp id fun ⟨c, hm, _, hk⟩ => .inr (.inr ⟨_, hm, hk⟩)
  have hkeep : ∀ k, k < w5.heap.size → k ≠ pb → (∀ c, getM cs q = some c → ¬ c.has k) → w6.heap[k]? = w5.heap[k]? := fun k hk hp hn => mv.block k hk fun ha => by
    rcases hadd k ha with e | ⟨c, _, hg, hh⟩
    · exact hp e
    · exact hn c hg hh
  have hmb6 : w6.heap[mb]? = w5.heap[mb]? := hkeep mb h.map.lt (fun e => hpb (by rw [← e]; exact .inr (.inl rfl))) fun c hg hh => by
    obtain ⟨⟨es, clock, hb, _⟩, _⟩ := h.map
    exact (h.cel _ (getM_mem hg)).1.neMap hh hb
  have hgb6 : w6.heap[gb]? = w5.heap[gb]? := hkeep gb h.lt (fun e => hpb (by rw [← e]; exact .inl rfl)) fun c hg hh => (h.cel _ (getM_mem hg)).1.ne hh h.box (by decide) (by decide)
  have hmap6 := h.map.keep hmb6
  have hbox6 := hgb6.trans h.box
  have hcel6 : ∀ x ∈ cs, x.1 ≠ q → CelW w6 B x.2 := fun x hx hxq => (h.cel x hx).1.keep fun k hk => hkeep k ((h.cel x hx).1.has hk).2 (fun e => hpb (by rw [← e]; exact .inr (.inr ⟨x, hx, hk⟩))) fun c hg hh => apart_at h hg hx hxq k hh hk
  have hchas : ∀ k, c'.has k → (∃ c, getM cs q = some c ∧ c.has k) ∨ w5.heap.size ≤ k := by
    rintro k (hk | hk)
    · rcases h1 with e | ⟨j, e, hj⟩
      · rw [e] at hk; exact .inl (celAt_has (.inl hk))
      · rw [e] at hk; cases hk; exact .inr hj
    · rcases h2 with e | ⟨j, e, hj⟩
      · rw [e] at hk; exact .inl (celAt_has (.inr hk))
      · rw [e] at hk; cases hk; exact .inr hj
  have hcmb : ∀ k, c'.has k → k ≠ mb ∧ k ≠ gb := by
    intro k hk
    refine ⟨?_, ?_⟩
    · rintro rfl
      obtain ⟨⟨es, clock, hb, _⟩, _⟩ := hmap6
      exact hc.neMap hk hb
    · rintro rfl
      exact hc.ne hk hbox6 (by decide) (by decide)
  refine ⟨hmap6, hbox6, ?_, ?_, haddGF, fun k hk => (hchas k hk).imp (fun ⟨c, hg, hh⟩ => .inr (.inr ⟨_, getM_mem hg, hh⟩)) id, hcmb⟩
  · intro w7 hm7 hg7
    have hk7 : ∀ k, k < w6.heap.size → k ≠ mb → w7.heap[k]? = w6.heap[k]? := fun k hk hkm => hg7.block k hk (fun e => hkm (Option.some.inj e))
    have hcel7 : ∀ c : Cel, CelW w6 B c → CelW w7 B c := fun c hc => hc.keep fun k hk => hk7 k (hc.has hk).2 (fun e => by
      subst e
      obtain ⟨⟨es, clock, hb, _⟩, _⟩ := hmap6
      exact hc.neMap hk hb)
    refine ⟨⟨(hk7 gb (Nat.lt_of_lt_of_le h.lt mv.size) hne).trans hbox6, ?_, ?_, ?_, h.bg, h.bm⟩, ?_⟩
    · rw [← putM_map (fun c : Cel => c.val) q c' cs]
      exact hm7
    · intro x hx
      rcases mem_putM hx with rfl | ⟨hx, hxq⟩
      · exact ⟨hcel7 _ hc, hok⟩
      · rcases hxq with hxq | hxq
        · exact ⟨hcel7 _ (hcel6 x hx hxq), (h.cel x hx).2⟩
        · exact absurd h.nodup hxq
    · refine putM_pairwise (R := fun x y : Plc × Cel => ∀ k, x.2.has k → ¬ y.2.has k) (fun x y h k a b => h k b a) h.nodup h.apart ?_
      intro y hy hyq k hk hyk
      rcases hchas k hk with ⟨c, hg, hh⟩ | hge
      · exact apart_at h hg hy hyq k hh hyk
      · have := ((h.cel y hy).1.has hyk).2
        omega
    · rintro k (rfl | rfl | ⟨x, hx, hk⟩)
      · exact .inl (.inl rfl)
      · exact .inl (.inr (.inl rfl))
      · rcases mem_putM hx with rfl | ⟨hx, _⟩
        · rcases hchas k hk with ⟨c, hg, hh⟩ | hge
          · exact .inl (.inr (.inr ⟨_, getM_mem hg, hh⟩))
          · exact .inr hge
        · exact .inl (.inr (.inr ⟨x, hx, hk⟩))
  · intro w7 hm7 hg7
    have hk7 : ∀ k, k < w6.heap.size → k ≠ mb → w7.heap[k]? = w6.heap[k]? := fun k hk hkm => hg7.block k hk (fun e => hkm (Option.some.inj e))
    refine ⟨⟨(hk7 gb (Nat.lt_of_lt_of_le h.lt mv.size) hne).trans hbox6, ?_, ?_, ?_, h.bg, h.bm⟩, ?_⟩
    · rw [← delM_map (fun c : Cel => c.val) q cs]
      exact hm7
    · intro x hx
      have hxc := delM_sub.subset hx
      have hxq := delM_ne h.nodup x hx
      have hcx := hcel6 x hxc hxq
      refine ⟨hcx.keep fun k hk => hk7 k (hcx.has hk).2 (fun e => ?_), (h.cel x hxc).2⟩
      subst e
      obtain ⟨⟨es, clock, hb, _⟩, _⟩ := hmap6
      exact hcx.neMap hk hb
    · exact h.apart.sublist delM_sub
    · rintro k (rfl | rfl | ⟨x, hx, hk⟩)
      · exact .inl rfl
      · exact .inr (.inl rfl)
      · exact .inr (.inr ⟨x, delM_sub.subset hx, hk⟩)

end Go.Proofs.YtdjahdnaihijjaaGreatDoor
/-
  The contract of Feed of gather's Gather.
  Conditions: none but sizes.
-/
namespace Go.Proofs.YtdjahdnaihijjaaGreatDoor
open Go.RowKit
set_option linter.unusedVariables false
set_option linter.unusedSimpArgs false

set_option maxRecDepth 100000 in
set_option maxHeartbeats 4000000 in
theorem feed_live (f : Fr) (w : World) (B gb mb : Nat) (cs : List (Plc × Cel)) (hf : f.ok) (hB : B ≤ w.heap.size) (h : GL w B gb mb cs) :
    Calls Tryz.prog 9 #[.pointer (some ⟨gb, 0, none⟩), .agg f.vs.toArray] w (FeedSaid w B gb (GF gb mb cs) (feedM (cs.map fun x => (x.1, x.2.p)) f)) := by
  obtain ⟨RES, hRES⟩ : ∃ R, R = feedM (cs.map fun x => (x.1, x.2.p)) f := ⟨_, rfl⟩
  rw [← hRES]
  unfold feedM at hRES
  have HRES := Lib.hid hRES
  clear hRES
  obtain ⟨hw3, hs3⟩ := W3.of w f
  have hq : smallP f.plc := ⟨hf.2.2.1, by have := hf.2.1; show f.k < 65536; omega⟩
  have hL := h.keep (w' := w3 w f) (fun k hk => hw3.bel.block k (h.foot k hk).2)
  have hlook := hL.look hq
  have hlookd : (Instr.lookup 77 (.map (some mb)) (keyV f.plc) true).run Tryz.prog (w3 w f).drew = _ := (hL.keep (w' := (w3 w f).drew) fun _ _ => rfl).look hq
  have hu : IntKind.u16.wrap (f.k : Int) = (f.k : Int) := by rw [IntKind.wrap_u16]; have := hf.2.1; omega
  have c0 := h.c0
  have hgl := h.lt
  have c00 := fun o o' => (((f_below_box w o).alloc (by simp) o').cell (p := ⟨gb, 0, none⟩) hgl).trans c0
  have c0' := c00 (Obj.cells #[.bool f.a, .bool f.b, .bool f.c, .bool f.d, .int .u8 f.t, .int .u8 f.k, .int .u16 f.ch, .string f.p] 51) (Obj.cells #[.int .u16 0, .int .u8 0, .slice none 0 0] 41)
  have g1 := hL.c1
  have g1d : (w3 w f).drew.cell? ⟨gb, 1, none⟩ = _ := g1
  have k0 : (w3 w f).cell? ⟨w.heap.size + 1 + 1, 0, none⟩ = some (.int .u16 f.ch) := by rw [cell_of_row _ _ _ _ 82 (0, 0) hw3.key]; rfl
  have k1 : (w3 w f).cell? ⟨w.heap.size + 1 + 1, 1, none⟩ = some (.int .u16 f.k) := by rw [cell_of_row _ _ _ _ 82 (0, 0) hw3.key]; rfl
  have hbz := f_below_box (w3 w f) (Obj.cells #[.slice none 0 0, .slice none 0 0, .bool false, .bool false, .bool false, .bool false, .int .u8 0, .int .u8 0, .int .u16 0, .string ⟨#[]⟩, .bool false] 85)
  have g1z := (hbz.cell (p := ⟨gb, 1, none⟩) hL.lt).trans g1
  have k0z := (hbz.cell (p := ⟨w.heap.size + 1 + 1, 0, none⟩) (show w.heap.size + 1 + 1 < (w3 w f).heap.size by omega)).trans k0
  have k1z := (hbz.cell (p := ⟨w.heap.size + 1 + 1, 1, none⟩) (show w.heap.size + 1 + 1 < (w3 w f).heap.size by omega)).trans k1
  have hlookz : (Instr.lookup 77 (.map (some mb)) (keyV f.plc) true).run Tryz.prog ((w3 w f).alloc (Obj.cells #[.slice none 0 0, .slice none 0 0, .bool false, .bool false, .bool false, .bool false, .int .u8 0, .int .u8 0, .int .u16 0, .string ⟨#[]⟩, .bool false] 85)).drew = _ := (hL.keep (w' := ((w3 w f).alloc (Obj.cells #[.slice none 0 0, .slice none 0 0, .bool false, .bool false, .bool false, .bool false, .int .u8 0, .int .u8 0, .int .u16 0, .string ⟨#[]⟩, .bool false] 85)).drew) fun k hk => hbz.block k (hL.foot k hk).2).look hq
  have HC := Lib.hid (celAt_w hL f.plc)
  obtain ⟨A1, x1, hv1, _, _⟩ := HC.out.o1.form
  obtain ⟨A2, x2, hv2, _, _⟩ := HC.out.o2.form
  have HW3 := Lib.hid (And.intro hw3 (And.intro hs3 hL))
  clear hw3 hL c0 c00 hbz
  have hf' := Lib.hid hf
  have hcv : (celAt cs f.plc).val = .agg (ptVs (celAt cs f.plc).v1 (celAt cs f.plc).v2 (celAt cs f.plc).p.head (celAt cs f.plc).p.whole).toArray := rfl
  rw [hcv] at hlook hlookd hlookz
  obtain ⟨fa, fb, fc, fd, ft, fk, fch, fp⟩ := f
  simp only [Fr.vs, Fr.plc, keyV, ptVs] at *
  generalize hCC : celAt cs (fch, fk) = C at *
  obtain ⟨⟨segs, bytes, ⟨ha, hb, hc, hd, ht, hk, hch, hp⟩, whole⟩, v1, v2⟩ := C
  simp only [] at *
  subst hv1
  subst hv2
  have hw3def : ((w.alloc (Obj.cells #[.bool fa, .bool fb, .bool fc, .bool fd, .int .u8 ft, .int .u8 fk, .int .u16 fch, .string fp] 51)).alloc (Obj.cells #[.int .u16 0, .int .u8 0, .slice none 0 0] 41)).alloc (Obj.cells #[.int .u16 fch, .int .u16 fk] 82) = w3 w ⟨fa, fb, fc, fd, ft, fk, fch, fp⟩ := rfl
  generalize w3 w ⟨fa, fb, fc, fd, ft, fk, fch, fp⟩ = W3 at *
  have HDEF := Lib.hid hw3def
  clear hw3def
  go_enter Tryz.func9, Tryz.ntmps9
  go_upto_region 6 with fail
  rw [HDEF.out]
  clear HDEF
  go_cut [8, 9] from 33 to 41 (fun a b wx => a = .pointer (some ⟨w.heap.size + 1 + 1 + 1, 0, none⟩) ∧ b = .bool (getM cs (fch, fk)).isSome ∧ wx = (W3.alloc (Obj.cells #[.slice A1 segs.length x1, .slice A2 bytes.length x2, .bool ha, .bool hb, .bool hc, .bool hd, .int .u8 ht, .int .u8 hk, .int .u16 hch, .string hp, .bool whole] 85)).drew)
  case first =>
    go_region
    all_goals
      go_wp2_with fail
      go_meet
      exact ⟨rfl, rfl, rfl⟩
  case rest =>
    obtain ⟨rfl, rfl, rfl⟩ := hcut
    clear k0 k1 g1 g1d g1z k0z k1z hlook hlookd hlookz
    have hL := HW3.out.2.2
    have hbP := below_drew1 (f_below_box W3 (Obj.cells #[.slice A1 segs.length x1, .slice A2 bytes.length x2, .bool ha, .bool hb, .bool hc, .bool hd, .int .u8 ht, .int .u8 hk, .int .u16 hch, .string hp, .bool whole] 85))
    have hX4 : BoxP (W3.alloc (Obj.cells #[.slice A1 segs.length x1, .slice A2 bytes.length x2, .bool ha, .bool hb, .bool hc, .bool hd, .int .u8 ht, .int .u8 hk, .int .u16 hch, .string hp, .bool whole] 85)).drew (w.heap.size + 1 + 1 + 1) (.slice A1 segs.length x1) (.slice A2 bytes.length x2) ⟨ha, hb, hc, hd, ht, hk, hch, hp⟩ whole := by
      have := BoxP.new W3 (.slice A1 segs.length x1) (.slice A2 bytes.length x2) ⟨ha, hb, hc, hd, ht, hk, hch, hp⟩ whole
      rw [hs3] at this
      exact this
    have hF4 := HW3.out.1.fr.kept hbP (Nat.le_refl _)
    have hA4 := HW3.out.1.asm.kept hbP (Nat.le_refl _)
    have hK4 := (hbP.block _ (show w.heap.size + 1 + 1 < W3.heap.size by omega)).trans HW3.out.1.key
    have hL4 := hL.keep fun k hk => hbP.block k (hL.foot k hk).2
    have hC4 := HC.out.keep fun k hk => hbP.block k (HC.out.has hk).2
    have hB4 := HW3.out.1.bel.trans (hbP.mono HW3.out.1.bel.size)
    have hs4 : (W3.alloc (Obj.cells #[.slice A1 segs.length x1, .slice A2 bytes.length x2, .bool ha, .bool hb, .bool hc, .bool hd, .int .u8 ht, .int .u8 hk, .int .u16 hch, .string hp, .bool whole] 85)).drew.heap.size = w.heap.size + 1 + 1 + 1 + 1 := by
      show (W3.alloc (Obj.cells #[.slice A1 segs.length x1, .slice A2 bytes.length x2, .bool ha, .bool hb, .bool hc, .bool hd, .int .u8 ht, .int .u8 hk, .int .u16 hch, .string hp, .bool whole] 85)).heap.size = _
      rw [World.size_alloc, hs3]
    generalize (W3.alloc (Obj.cells #[.slice A1 segs.length x1, .slice A2 bytes.length x2, .bool ha, .bool hb, .bool hc, .bool hd, .int .u8 ht, .int .u8 hk, .int .u16 hch, .string hp, .bool whole] 85)).drew = W4 at *
    have H4 := Lib.hid (And.intro hX4 (And.intro hF4 (And.intro hA4 (And.intro hK4 (And.intro hL4 (And.intro hC4 (And.intro hB4 hs4)))))))
    have hopt := celAt_opt cs (fch, fk)
    rw [hCC] at hopt
    simp only at hopt
    have hokp := celAt_ok h (fch, fk)
    have hgf := h.foot
    have hpb : ¬ GF gb mb cs (w.heap.size + 1 + 1 + 1) := fun hk => by have := (hgf _ hk).2; omega
    have hpt : (getM (cs.map fun x => (x.1, x.2.p)) (fch, fk)).getD pt0 = ⟨segs, bytes, ⟨ha, hb, hc, hd, ht, hk, hch, hp⟩, whole⟩ := by rw [← celAt_p, hCC]
    have hbl : bytes.length ≤ 16384 ∧ segs.length ≤ 1000 := by
      cases ho : getM (cs.map fun x => (x.1, x.2.p)) (fch, fk) with
      | none => rw [ho] at hpt; injection hpt with e1 e2 _ _; rw [← e1, ← e2]; exact ⟨by simp [pt0], by simp [pt0]⟩
      | some p =>
        rw [ho] at hpt
        obtain rfl : p = _ := hpt
        have := hokp _ ho
        have h1 := this.segs
        have h2 := this.head
        have h3 := this.bytes
        simp only at h1 h2 h3
        exact ⟨h3, by omega⟩
    have HR := fun w' => refused_any ⟨fa, fb, fc, fd, ft, fk, fch, fp⟩ (.slice A1 segs.length x1) A2 bytes.length x2 ⟨segs, bytes, ⟨ha, hb, hc, hd, ht, hk, hch, hp⟩, whole⟩ (getM cs (fch, fk)).isSome w' rfl hf (by rw [hopt, hpt]) hbl.1
    have hadded := fun hr => PtOk.added (f := ⟨fa, fb, fc, fd, ft, fk, fch, fp⟩) hokp hr
    rw [hopt] at HR
    have HR := Lib.hid HR
    have HGF := Lib.hid (And.intro hgf hpb)
    have HADD := Lib.hid hadded
    have HQ := Lib.hid (And.intro hq hCC)
    have f0 := hF4.c0
    have f1 := hF4.c1
    have f2 := hF4.c2
    have f3 := hF4.c3
    have f4 := hF4.c4
    have f5 := hF4.c5
    have f6 := hF4.c6
    have f7 := hF4.c7
    have q0 := hX4.c0
    have q1 := hX4.c1
    have q2 := hX4.c2
    have q3 := hX4.c3
    have q4 := hX4.c4
    have q5 := hX4.c5
    have q6 := hX4.c6
    have q7 := hX4.c7
    have q8 := hX4.c8
    have q9 := hX4.c9
    have q10 := hX4.c10
    have hres := HRES.out
    have HR1 := Lib.hid (fun (hr : refusedD ⟨fa, fb, fc, fd, ft, fk, fch, fp⟩ (getM (cs.map fun x => (x.1, x.2.p)) (fch, fk)) ≠ 0) => show RES = (ans0 (refusedD ⟨fa, fb, fc, fd, ft, fk, fch, fp⟩ (getM (cs.map fun x => (x.1, x.2.p)) (fch, fk))), none) by rw [hres]; exact if_pos hr)
    have HR2 := Lib.hid (fun (hr : refusedD ⟨fa, fb, fc, fd, ft, fk, fch, fp⟩ (getM (cs.map fun x => (x.1, x.2.p)) (fch, fk)) = 0) (h1 : fb = true) (h2 : fd = true) => show RES = (⟨fch, fk, wholeD ((⟨segs, bytes, ⟨ha, hb, hc, hd, ht, hk, hch, hp⟩, whole⟩ : Pt).add ⟨fa, fb, fc, fd, ft, fk, fch, fp⟩).bytes ((⟨segs, bytes, ⟨ha, hb, hc, hd, ht, hk, hch, hp⟩, whole⟩ : Pt).add ⟨fa, fb, fc, fd, ft, fk, fch, fp⟩).segs, true, 0⟩, some (delM (cs.map fun x => (x.1, x.2.p)) (fch, fk))) by
      rw [hres, ← hpt]
      exact (if_neg (by omega)).trans (if_pos ⟨h1, h2⟩))
    have HR3 := Lib.hid (fun (hr : refusedD ⟨fa, fb, fc, fd, ft, fk, fch, fp⟩ (getM (cs.map fun x => (x.1, x.2.p)) (fch, fk)) = 0) (h1 : ¬ (fb = true ∧ fd = true)) => show RES = (ans0 0, some (putM (cs.map fun x => (x.1, x.2.p)) (fch, fk) ((⟨segs, bytes, ⟨ha, hb, hc, hd, ht, hk, hch, hp⟩, whole⟩ : Pt).add ⟨fa, fb, fc, fd, ft, fk, fch, fp⟩))) by
      rw [hres, ← hpt]
      exact (if_neg (by omega)).trans (if_neg h1))
    clear hres HRES
    rw [hpt] at hadded HADD
    generalize hoo : getM (cs.map fun x => (x.1, x.2.p)) (fch, fk) = o at *
    clear hX4 hF4 hA4 hK4 hL4 hC4 hB4 hopt hokp hgf hpb hadded hq hpt hCC HW3 HC hbP hcv hoo
    by_cases hr : refusedD ⟨fa, fb, fc, fd, ft, fk, fch, fp⟩ o = 0
    · have hok' := HADD.out hr
      have hck := (refused_zero hr).1
      have hp4 := (checkF_zero hck).2.2
      have H2 := Lib.hid (HR2.out hr)
      have H3 := Lib.hid (HR3.out hr)
      have HAD := Lib.hid (fun w' hB' hX' ho1 ho2 => add_any ⟨fa, fb, fc, fd, ft, fk, fch, fp⟩ B (w.heap.size + 1 + 1 + 1) (.slice A1 segs.length x1) (.slice A2 bytes.length x2) (⟨segs, bytes, ⟨ha, hb, hc, hd, ht, hk, hch, hp⟩, whole⟩ : Pt) w' hf hp4 hB' hX' ho1 ho2 hbl.2 hbl.1)
      rw [hr] at HR
      have HOK := Lib.hid hok'
      clear hr hok' hck hp4 HADD HR1 HR2 HR3
      simp only [Fr.vs, ptVs] at HR HAD
      unfold AddSaid at HAD
      generalize (⟨segs, bytes, ⟨ha, hb, hc, hd, ht, hk, hch, hp⟩, whole⟩ : Pt).add ⟨fa, fb, fc, fd, ft, fk, fch, fp⟩ = p' at *
      obtain ⟨segs', bytes', ⟨ga, gb', gc, gd, gt, gk, gch, gp⟩, whole'⟩ := p'
      simp only [] at HAD H2
      have hB5 : ∀ w5, Below W4.heap.size W4 w5 → B ≤ w5.heap.size := fun w5 hb5 => by have := hb5.size; omega
      have HB5 := Lib.hid hB5
      clear hB5
      by_cases hlast : fb = true ∧ fd = true
      · obtain ⟨rfl, rfl⟩ := hlast
        have HRES := Lib.hid (H2.out rfl rfl)
        clear H2 H3
        go_upto_region 15 with (first
          | (go_at_call 28
             refine (HR.out _).mono ?_
             rintro e w5 ⟨rfl, hb5⟩
             have hL5 := H4.out.2.2.2.2.1.keep fun k hk => hb5.block k (H4.out.2.2.2.2.1.foot k hk).2
             have hX5 := H4.out.1.kept hb5 (Nat.le_refl _)
             have hF5 := H4.out.2.1.kept hb5 (Nat.le_refl _)
             have hC5 := H4.out.2.2.2.2.2.1.keep fun k hk => hb5.block k (H4.out.2.2.2.2.2.1.has hk).2
             have r0 := hF5.c0
             have r1 := hF5.c1
             have r2 := hF5.c2
             have r3 := hF5.c3
             have r4 := hF5.c4
             have r5 := hF5.c5
             have r6 := hF5.c6
             have r7 := hF5.c7)
          | (go_at_call 29
             refine (HAD.out w5 (HB5.out _ hb5) hX5 hC5.o1 hC5.o2).mono ?_
             rintro e w6 ⟨rfl, v1', v2', hX6, hn1, hn2, hw1, hw2, mv⟩
             have hX6 : BoxP w6 (w.heap.size + 1 + 1 + 1) v1' v2' ⟨ga, gb', gc, gd, gt, gk, gch, gp⟩ whole' := hX6
             have hn1 : OwnG sgmC 115 w6 B v1' segs' := hn1
             have hn2 : Own 5 w6 B v2' bytes' := hn2
             obtain ⟨B1, z1, rfl, _, _⟩ := hn1.form
             obtain ⟨B2, z2, rfl, _, _⟩ := hn2.form
             have hsz5 := hb5.size
             have hadd := hL5.add (q := (fch, fk)) (HB5.out _ hb5) HGF.out.2 (c' := ⟨⟨segs', bytes', ⟨ga, gb', gc, gd, gt, gk, gch, gp⟩, whole'⟩, .slice B1 segs'.length z1, .slice B2 bytes'.length z2⟩) ⟨hn1, hn2⟩ HOK.out (by rw [HQ.out.2]; exact hw1) (by rw [HQ.out.2]; exact hw2) (by rw [HQ.out.2]; exact mv)
             obtain ⟨hm6, hb6, hput, hdel, haf, hcf, hcn⟩ := hadd
             rw [HQ.out.2] at haf
             have haf' : ∀ k, addF (w.heap.size + 1 + 1 + 1) (.slice A1 segs.length x1) (.slice A2 bytes.length x2) k → k = w.heap.size + 1 + 1 + 1 ∨ k < w.heap.size := fun k hk => (haf k hk).imp id fun h => (HGF.out.1 k h).2
             have hF6 : BoxF w6 w.heap.size _ := (mv.block _ (by omega) (fun hk => by have := haf' _ hk; omega)).trans hF5
             have hA6 : BoxA w6 (w.heap.size + 1) 0 0 (.slice none 0 0) := (mv.block _ (by omega) (fun hk => by have := haf' _ hk; omega)).trans (H4.out.2.2.1.kept hb5 (Nat.le_refl _))
             have hK6 := (mv.block (w.heap.size + 1 + 1) (by omega) (fun hk => by have := haf' _ hk; omega)).trans ((hb5.block _ (by omega)).trans H4.out.2.2.2.1)
             have t1 := hF6.c1
             have t3 := hF6.c3
             have g1 : w6.cell? ⟨gb, 1, none⟩ = some (.map (some mb)) := by rw [cell_of_row w6 gb _ _ 79 (0, 0) hb6]; rfl
             have k0 : w6.cell? ⟨w.heap.size + 1 + 1, 0, none⟩ = some (.int .u16 fch) := by rw [cell_of_row _ _ _ _ 82 (0, 0) hK6]; rfl
             have k1 : w6.cell? ⟨w.heap.size + 1 + 1, 1, none⟩ = some (.int .u16 fk) := by rw [cell_of_row _ _ _ _ 82 (0, 0) hK6]; rfl
             clear r0 r1 r2 r3 r4 r5 r6 r7))
        obtain ⟨w7, hrun, hm7, hg7, hs7⟩ := MapIs.drop (w := w6.drew) (hm6.keep rfl) HQ.out.1 0
        have hrun' : (Builtin.delete_ #[77, 82] 0 #[.map (some mb), .agg #[.int .u16 fch, .int .u16 fk]]).run Tryz.prog w6.drew = .ok (.tuple #[]) w7 := hrun
        have hmbl : mb < w.heap.size := (HGF.out.1 mb (.inr (.inl rfl))).2
        have hk7 : ∀ k, k < w6.heap.size → k ≠ mb → w7.heap[k]? = w6.heap[k]? := fun k hk hne => hg7.block k hk (fun e => hne (Option.some.inj e))
        have h56 := mv.size
        have hA7 : BoxA w7 (w.heap.size + 1) 0 0 (.slice none 0 0) := (hk7 _ (by omega) (by omega)).trans hA6
        have hF7 : BoxF w7 w.heap.size _ := (hk7 _ (by omega) (by omega)).trans hF6
        have hX7 : BoxP w7 (w.heap.size + 1 + 1 + 1) _ _ _ _ := (hk7 _ (by omega) (by omega)).trans hX6
        have hc1 := hn1.keep (w' := w7) fun k hk => hk7 k (hn1.block k hk).2 (hcn k (.inl hk)).1
        have hc2 := hn2.keep (w' := w7) fun k hk => hk7 k (hn2.block k hk).2 (hcn k (.inr hk)).1
        have hg67 : w6.grownBy w7 (some mb) := ⟨hg7.os, hg7.tape, hg7.output, hg7.size, hg7.block⟩
        obtain ⟨hL7, hG7⟩ := hdel w7 hm7 hg67
        have HB05 := Lib.hid (H4.out.2.2.2.2.2.2.1.trans (hb5.mono H4.out.2.2.2.2.2.2.1.size))
        have HMV := Lib.hid (And.intro mv (And.intro haf (And.intro hg67 (And.intro hL7 hG7))))
        have hs67 : w7.heap.size = w6.heap.size := hs7
        have H7 := Lib.hid (And.intro hA7 (And.intro hF7 (And.intro hX7 (And.intro hc1 (And.intro hc2 (by omega : w.heap.size + 1 + 1 + 1 + 1 ≤ w7.heap.size))))))
        clear hA7 hF7 hX7 hc1 hc2 hL7 hG7 hg67 hput hdel hcf hcn mv haf haf' hm7 hg7 hrun hn1 hn2 hw1 hw2 hX6 hF6 hA6 hK6 hm6 hb6 hk7
        go_cut [4, 3, 8] from 73 to 77 (fun a b c wx => a = .pointer (some ⟨w.heap.size + 1, 0, none⟩) ∧ b = .pointer (some ⟨w.heap.size, 0, none⟩) ∧ c = .pointer (some ⟨w.heap.size + 1 + 1 + 1, 0, none⟩) ∧ wx = w7)
        case first =>
          go_region
          all_goals
            go_wp2_with fail
            go_meet
            exact ⟨rfl, rfl, rfl, rfl⟩
        case rest =>
          obtain ⟨rfl, rfl, rfl, hww⟩ := hcut
          rw [hww]
          clear hww
          obtain ⟨d1, _, hsh1⟩ := H7.out.2.2.2.1.shows
          obtain ⟨d2, _, hsh2⟩ := H7.out.2.2.2.2.1.shows
          have hW0 := pwhole_any (w.heap.size + 1 + 1 + 1) d1 d2 z1 z2 B1 B2 ⟨segs', bytes', ⟨ga, gb', gc, gd, gt, gk, gch, gp⟩, whole'⟩ w7.drew H7.out.2.2.1 hsh1 hsh2 (by have h1 := HOK.out.segs; have h2 := HOK.out.head; simp only at h1 h2 ⊢; omega) HOK.out.bytes HOK.out.mono HOK.out.ends
          unfold WholeSaid at hW0
          have HW := Lib.hid hW0
          have u5 := H7.out.2.1.c5
          have u6 := H7.out.2.1.c6
          have u5d : w7.drew.cell? ⟨w.heap.size, 5, none⟩ = _ := u5
          have u6d : w7.drew.cell? ⟨w.heap.size, 6, none⟩ = _ := u6
          clear hsh1 hsh2 hW0 u5 u6
          go_upto_region 16 with fail
          go_region_with ((go_at_call 30
                           refine HW.out.mono ?_
                           rintro e w8 ⟨v8, rfl, ho8, hb8⟩
                           obtain ⟨A8, n8, c8, rfl⟩ : ∃ A n c, v8 = .slice A n c := by
                             obtain ⟨A, c, e, _⟩ := ho8.form
                             exact ⟨_, _, _, e⟩
                           have hb78 : Below w7.heap.size w7 w8 := ⟨hb8.os, hb8.tape, hb8.output, hb8.size, hb8.block⟩
                           have ho8' : OwnG sgC 38 w8 w7.heap.size (.slice A8 n8 c8) (wholeD bytes' segs') := ho8
                           have hA8 := H7.out.1.kept hb78 (Nat.le_refl _)
                           have hF8 := H7.out.2.1.kept hb78 (Nat.le_refl _)
                           have a0 := hA8.c0
                           have a1 := hA8.c1
                           have a2 := hA8.c2
                           have e5 := hF8.c5
                           have e6 := hF8.c6
                           have af0 : w8.frozen? ⟨w.heap.size + 1, 0, none⟩ = false := frozen_of_row w8 _ 0 _ 41 hA8
                           have af1 : w8.frozen? ⟨w.heap.size + 1, 1, none⟩ = false := frozen_of_row w8 _ 1 _ 41 hA8
                           have af2 : w8.frozen? ⟨w.heap.size + 1, 2, none⟩ = false := frozen_of_row w8 _ 2 _ 41 hA8
                           have HA8 := Lib.hid (And.intro hA8 (And.intro hb78 ho8'))
                           clear hA8 hF8 hb78 ho8' ho8 hb8))
          all_goals
            go_wp2_with fail
            obtain ⟨hA8, hb78, ho8⟩ := HA8.out
            have s1 := heap_setCell_same _ (w.heap.size + 1) 0 _ 41 (.int .u16 fch) hA8
            have s2 := heap_setCell_same _ (w.heap.size + 1) 1 _ 41 (.int .u8 fk) s1
            have s3 := heap_setCell_same _ (w.heap.size + 1) 2 _ 41 (.slice A8 n8 c8) s2
            refine bodyPost_ret (results_c3 rfl _ _ (w.heap.size + 1) 41 _ (0, 0) _ rfl s3 Tryz.underlying41 rfl (by kernel_rfl)) rfl ?_
            rw [HRES.out]
            obtain ⟨mv, haf, hg67, hL7, hG7⟩ := HMV.out
            have hb5s := HB05.out.size
            have hs7' := H7.out.2.2.2.2.2
            have hset : ∀ (W : World) (i : Nat) (v : Value) (k : Nat), k ≠ w.heap.size + 1 → (W.setCell ⟨w.heap.size + 1, i, none⟩ v).heap[k]? = W.heap[k]? := fun W i v k hk => Below.heap_setCell _ _ _ _ hk
            have hkn : ∀ k, GF gb mb (delM cs (fch, fk)) k → k ≠ w.heap.size + 1 ∧ k < w7.heap.size := fun k hk => by
              have := (HGF.out.1 k (hG7 k hk)).2
              omega
            refine ⟨.slice A8 n8 c8, _, rfl, (ho8.keep fun k hk => ?_).mono (by omega), ⟨mb, _, hL7.keep fun k hk => ?_, delM_map (fun c : Cel => c.p) (fch, fk) cs, rfl⟩, fun k hk => .inl (hG7 k hk), ?_⟩
            · have hn : k ≠ w.heap.size + 1 := by have := (ho8.block k hk).1; omega
              exact (hset _ _ _ k hn).trans ((hset _ _ _ k hn).trans (hset _ _ _ k hn))
            · obtain ⟨hn, hl⟩ := hkn k hk
              exact (hset _ _ _ k hn).trans ((hset _ _ _ k hn).trans ((hset _ _ _ k hn).trans (hb78.block k hl)))
            · have hm := (Moved.of_below (F := GF gb mb cs) HB05.out).trans mv (fun k hk ha => by
                rcases haf k ha with e | e
                · omega
                · exact e)
              have hm2 := hm.trans (Moved.of_grown (F := GF gb mb cs) hg67 (fun k hk => by cases hk; exact .inr (.inl rfl))) (fun k _ h => h)
              have hm3 := hm2.trans (Moved.of_below (F := GF gb mb cs) hb78) (fun k _ h => h)
              exact ((hm3.setCell (k := w.heap.size + 1) (fun h => by omega) 0 (.int .u16 fch)).setCell (k := w.heap.size + 1) (fun h => by omega) 1 (.int .u8 fk)).setCell (k := w.heap.size + 1) (fun h => by omega) 2 (.slice A8 n8 c8)
      · have hres := H3.out hlast
        have HRES := Lib.hid hres
        have hcase : (fb = false) ∨ (fb = true ∧ fd = false) := by
          cases fb <;> cases fd <;> simp_all
        clear hres H2 H3 hlast
        rcases hcase with rfl | ⟨rfl, rfl⟩ <;>
        · go_upto_region 13 with (first
            | (go_at_call 28
               refine (HR.out _).mono ?_
               rintro e w5 ⟨rfl, hb5⟩
               have hL5 := H4.out.2.2.2.2.1.keep fun k hk => hb5.block k (H4.out.2.2.2.2.1.foot k hk).2
               have hX5 := H4.out.1.kept hb5 (Nat.le_refl _)
               have hF5 := H4.out.2.1.kept hb5 (Nat.le_refl _)
               have hC5 := H4.out.2.2.2.2.2.1.keep fun k hk => hb5.block k (H4.out.2.2.2.2.2.1.has hk).2
               have r0 := hF5.c0
               have r1 := hF5.c1
               have r2 := hF5.c2
               have r3 := hF5.c3
               have r4 := hF5.c4
               have r5 := hF5.c5
               have r6 := hF5.c6
               have r7 := hF5.c7)
            | (go_at_call 29
               refine (HAD.out w5 (HB5.out _ hb5) hX5 hC5.o1 hC5.o2).mono ?_
               rintro e w6 ⟨rfl, v1', v2', hX6, hn1, hn2, hw1, hw2, mv⟩
               have hX6 : BoxP w6 (w.heap.size + 1 + 1 + 1) v1' v2' ⟨ga, gb', gc, gd, gt, gk, gch, gp⟩ whole' := hX6
               have hn1 : OwnG sgmC 115 w6 B v1' segs' := hn1
               have hn2 : Own 5 w6 B v2' bytes' := hn2
               obtain ⟨B1, z1, rfl, _, _⟩ := hn1.form
               obtain ⟨B2, z2, rfl, _, _⟩ := hn2.form
               have hsz5 := hb5.size
               have hadd := hL5.add (q := (fch, fk)) (HB5.out _ hb5) HGF.out.2 (c' := ⟨⟨segs', bytes', ⟨ga, gb', gc, gd, gt, gk, gch, gp⟩, whole'⟩, .slice B1 segs'.length z1, .slice B2 bytes'.length z2⟩) ⟨hn1, hn2⟩ HOK.out (by rw [HQ.out.2]; exact hw1) (by rw [HQ.out.2]; exact hw2) (by rw [HQ.out.2]; exact mv)
               obtain ⟨hm6, hb6, hput, hdel, haf, hcf, hcn⟩ := hadd
               rw [HQ.out.2] at haf
               have haf' : ∀ k, addF (w.heap.size + 1 + 1 + 1) (.slice A1 segs.length x1) (.slice A2 bytes.length x2) k → k = w.heap.size + 1 + 1 + 1 ∨ k < w.heap.size := fun k hk => (haf k hk).imp id fun h => (HGF.out.1 k h).2
               have hF6 : BoxF w6 w.heap.size _ := (mv.block _ (by omega) (fun hk => by have := haf' _ hk; omega)).trans hF5
               have hA6 : BoxA w6 (w.heap.size + 1) 0 0 (.slice none 0 0) := (mv.block _ (by omega) (fun hk => by have := haf' _ hk; omega)).trans (H4.out.2.2.1.kept hb5 (Nat.le_refl _))
               have hK6 := (mv.block (w.heap.size + 1 + 1) (by omega) (fun hk => by have := haf' _ hk; omega)).trans ((hb5.block _ (by omega)).trans H4.out.2.2.2.1)
               have t1 := hF6.c1
               have t3 := hF6.c3
               have g1 : w6.cell? ⟨gb, 1, none⟩ = some (.map (some mb)) := by rw [cell_of_row w6 gb _ _ 79 (0, 0) hb6]; rfl
               have k0 : w6.cell? ⟨w.heap.size + 1 + 1, 0, none⟩ = some (.int .u16 fch) := by rw [cell_of_row _ _ _ _ 82 (0, 0) hK6]; rfl
               have k1 : w6.cell? ⟨w.heap.size + 1 + 1, 1, none⟩ = some (.int .u16 fk) := by rw [cell_of_row _ _ _ _ 82 (0, 0) hK6]; rfl
               clear r0 r1 r2 r3 r4 r5 r6 r7))
          have c0 := hX6.c0
          have c1 := hX6.c1
          have c2 := hX6.c2
          have c3 := hX6.c3
          have c4 := hX6.c4
          have c5 := hX6.c5
          have c6 := hX6.c6
          have c7 := hX6.c7
          have c8 := hX6.c8
          have c9 := hX6.c9
          have c10 := hX6.c10
          obtain ⟨w7, hrun, hm7, hg7, hs7⟩ := MapIs.store (w := w6.drew) (hm6.keep rfl) HQ.out.1 (Cel.val ⟨⟨segs', bytes', ⟨ga, gb', gc, gd, gt, gk, gch, gp⟩, whole'⟩, .slice B1 segs'.length z1, .slice B2 bytes'.length z2⟩)
          have hrun' : (Instr.mapUpdate 77 (.map (some mb)) (.agg #[.int .u16 fch, .int .u16 fk]) (.agg #[.slice B1 segs'.length z1, .slice B2 bytes'.length z2, .bool ga, .bool gb', .bool gc, .bool gd, .int .u8 gt, .int .u8 gk, .int .u16 gch, .string gp, .bool whole'])).run Tryz.prog w6.drew = .ok () w7 := hrun
          have hmbl : mb < w.heap.size := (HGF.out.1 mb (.inr (.inl rfl))).2
          have hA7 : BoxA w7 (w.heap.size + 1) 0 0 (.slice none 0 0) := (hg7.block _ (by show _ < w6.heap.size; have := mv.size; omega) (fun e => by have := Option.some.inj e; omega)).trans hA6
          have a0 := hA7.c0
          have a1 := hA7.c1
          have a2 := hA7.c2
          have af0 : w7.frozen? ⟨w.heap.size + 1, 0, none⟩ = false := frozen_of_row w7 _ 0 _ 41 hA7
          have af1 : w7.frozen? ⟨w.heap.size + 1, 1, none⟩ = false := frozen_of_row w7 _ 1 _ 41 hA7
          have af2 : w7.frozen? ⟨w.heap.size + 1, 2, none⟩ = false := frozen_of_row w7 _ 2 _ 41 hA7
          have hg67 : w6.grownBy w7 (some mb) := ⟨hg7.os, hg7.tape, hg7.output, hg7.size, hg7.block⟩
          obtain ⟨hL7, hF7⟩ := hput w7 hm7 hg67
          have HB05 := Lib.hid (H4.out.2.2.2.2.2.2.1.trans (hb5.mono H4.out.2.2.2.2.2.2.1.size))
          have HMV := Lib.hid (And.intro mv (And.intro haf (And.intro hg67 (And.intro hL7 hF7))))
          have HA7 := Lib.hid hA7
          clear hA7 hL7 hF7 hg67 hput hdel hcf hcn mv haf haf' hm7 hg7 hrun hn1 hn2 hw1 hw2 hX6 hF6 hA6 hK6 hm6 hb6
          go_region
          all_goals
            go_wp2_with fail
            have s1 := heap_setCell_same _ (w.heap.size + 1) 0 _ 41 (.int .u16 0) HA7.out
            have s2 := heap_setCell_same _ (w.heap.size + 1) 1 _ 41 (.int .u8 0) s1
            have s3 := heap_setCell_same _ (w.heap.size + 1) 2 _ 41 (.slice none 0 0) s2
            refine bodyPost_ret (results_c3 rfl _ _ (w.heap.size + 1) 41 _ (0, 0) _ rfl s3 Tryz.underlying41 rfl (by kernel_rfl)) rfl ?_
            rw [HRES.out]
            obtain ⟨mv, haf, hg67, hL7, hF7⟩ := HMV.out
            have hb5s := HB05.out.size
            have hset : ∀ (W : World) (i : Nat) (v : Value) (k : Nat), k ≠ w.heap.size + 1 → (W.setCell ⟨w.heap.size + 1, i, none⟩ v).heap[k]? = W.heap[k]? := fun W i v k hk => Below.heap_setCell _ _ _ _ hk
            have hkn : ∀ k, GF gb mb (putM cs (fch, fk) (⟨⟨segs', bytes', ⟨ga, gb', gc, gd, gt, gk, gch, gp⟩, whole'⟩, .slice B1 segs'.length z1, .slice B2 bytes'.length z2⟩ : Cel)) k → k ≠ w.heap.size + 1 := fun k hk => by
              rcases hF7 k hk with h1 | h1
              · have := (HGF.out.1 k h1).2
                omega
              · omega
            refine ⟨.slice none 0 0, _, rfl, OwnG.nil_ _ _ _ _, ⟨mb, _, hL7.keep fun k hk => ((hset _ _ _ k (hkn k hk)).trans ((hset _ _ _ k (hkn k hk)).trans (hset _ _ _ k (hkn k hk)))), putM_map (fun c : Cel => c.p) (fch, fk) (⟨⟨segs', bytes', ⟨ga, gb', gc, gd, gt, gk, gch, gp⟩, whole'⟩, .slice B1 segs'.length z1, .slice B2 bytes'.length z2⟩ : Cel) cs, rfl⟩, fun k hk => (hF7 k hk).imp id (fun h => by omega), ?_⟩
            have hm := (Moved.of_below (F := GF gb mb cs) HB05.out).trans mv (fun k hk ha => by
              rcases haf k ha with e | e
              · omega
              · exact e)
            have hm2 := hm.trans (Moved.of_grown (F := GF gb mb cs) hg67 (fun k hk => by cases hk; exact .inr (.inl rfl))) (fun k _ h => h)
            exact ((hm2.setCell (k := w.heap.size + 1) (fun h => by omega) 0 (.int .u16 0)).setCell (k := w.heap.size + 1) (fun h => by omega) 1 (.int .u8 0)).setCell (k := w.heap.size + 1) (fun h => by omega) 2 (.slice none 0 0)
    · have hres := HR1.out hr
      generalize refusedD ⟨fa, fb, fc, fd, ft, fk, fch, fp⟩ o = r at *
      have hrI : ((r : Int) != 0) = true := by simp; omega
      clear hr HR1 HR2 HR3
      have HRES := Lib.hid hres
      clear hres
      simp only [Fr.vs, ptVs] at HR
      go_wp2_with (go_at_call 28
                   refine (HR.out _).mono ?_
                   rintro e w5 ⟨rfl, hb5⟩
                   have hL5 := H4.out.2.2.2.2.1.keep fun k hk => hb5.block k (H4.out.2.2.2.2.1.foot k hk).2
                   have g0 := hL5.c0
                   have g1 := hL5.c1
                   have gf0 := hL5.fr 0
                   have gf1 := hL5.fr 1
                   have hA5 := H4.out.2.2.1.kept hb5 (Nat.le_refl _)
                   have a0 := hA5.c0
                   have a1 := hA5.c1
                   have a2 := hA5.c2
                   have af0 : w5.frozen? ⟨w.heap.size + 1, 0, none⟩ = false := frozen_of_row w5 _ 0 _ 41 hA5
                   have af1 : w5.frozen? ⟨w.heap.size + 1, 1, none⟩ = false := frozen_of_row w5 _ 1 _ 41 hA5
                   have af2 : w5.frozen? ⟨w.heap.size + 1, 2, none⟩ = false := frozen_of_row w5 _ 2 _ 41 hA5)
      have hb05 := H4.out.2.2.2.2.2.2.1.trans (hb5.mono H4.out.2.2.2.2.2.2.1.size)
      have hne : gb ≠ w.heap.size + 1 := by omega
      have s1 := heap_setCell_same w5 gb 0 _ 79 (.int .u8 2) hL5.box
      have s2 := heap_setCell_same _ gb 1 _ 79 (.map none) s1
      have hset : ∀ (W : World) (i : Nat) (v : Value), (W.setCell ⟨w.heap.size + 1, i, none⟩ v).heap[gb]? = W.heap[gb]? := fun W i v => Below.heap_setCell _ _ _ _ hne
      have hset' : ∀ (W : World) (i : Nat) (v : Value), (W.setCell ⟨gb, i, none⟩ v).heap[w.heap.size + 1]? = W.heap[w.heap.size + 1]? := fun W i v => Below.heap_setCell _ _ _ _ (fun e => hne e.symm)
      have t0 := (hset' _ 1 (.map none)).trans ((hset' w5 0 (.int .u8 2)).trans hA5)
      have t1 := heap_setCell_same _ (w.heap.size + 1) 0 _ 41 (.int .u16 0) t0
      have t2 := heap_setCell_same _ (w.heap.size + 1) 1 _ 41 (.int .u8 0) t1
      have t3 := heap_setCell_same _ (w.heap.size + 1) 2 _ 41 (.slice none 0 0) t2
      refine bodyPost_ret (results_c3 rfl _ _ (w.heap.size + 1) 41 _ (0, 0) _ rfl t3 Tryz.underlying41 rfl (by kernel_rfl)) rfl ?_
      rw [HRES.out]
      refine ⟨.slice none 0 0, fun k => k = gb, rfl, OwnG.nil_ _ _ _ _, ⟨(hset _ _ _).trans ((hset _ _ _).trans ((hset _ _ _).trans s2)), hL5.bg, rfl⟩, fun k hk => .inl (.inl hk), ?_⟩
      have hm := ((Moved.of_below (F := GF gb mb cs) hb05).setCell (k := gb) (fun _ => .inl rfl) 0 (.int .u8 2)).setCell (k := gb) (fun _ => .inl rfl) 1 (.map none)
      exact ((hm.setCell (k := w.heap.size + 1) (fun h => by omega) 0 (.int .u16 0)).setCell (k := w.heap.size + 1) (fun h => by omega) 1 (.int .u8 0)).setCell (k := w.heap.size + 1) (fun h => by omega) 2 (.slice none 0 0)

end Go.Proofs.YtdjahdnaihijjaaGreatDoor
