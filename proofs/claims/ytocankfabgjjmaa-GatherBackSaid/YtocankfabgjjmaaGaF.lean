/-
  How a gatherer lies in memory; what a frame added leaves of it. The contracts of gather.New and Open.
  Conditions: none but sizes.
-/
import Derived.Test.YtocankfabgjjmaaGaE
namespace Go.Proofs.Ytocankfabgjjmaa
open Go.RowKit
set_option linter.unusedVariables false
set_option linter.unusedSimpArgs false

theorem results_c3 {P : Program} {fn : Func} {p u v : Tmp} {ty : TypeId} (h : fn.results = #[.cell p ty, .tmp u, .tmp v]) (tmps : Array Value) (w : World) (g : Nat) (t : TypeId) (cs : Array Value) (fr : Nat × Nat) (d : TypeDesc)
    (hp : tmps.getD p undef = .pointer (some ⟨g, 0, none⟩)) (hg : w.heap[g]? = some (.cells cs t fr))
    (hu : P.underlying ty = some d) (hd : (match d with | .struct _ | .array _ _ => true | _ => false) = true) (hi : (P.info? ty).map (·.size) = some cs.size) :
    (results fn tmps).run P w = .ok (.tuple #[.agg cs, tmps.getD u undef, tmps.getD v undef]) w := by
  have hp' : tmps[p]?.getD undef = .pointer (some ⟨g, 0, none⟩) := by simpa using hp
  simp [results, h, hp', asAddr, run_loadVar_row w g t ty cs fr d hg hu hd hi]

/-! ### Without the program: what is open stays right -/
/-- What is open is right: its segments are few, begin in order, and its bytes are not too many. -/
structure PtOk (p : Pt) : Prop where
  segs : p.segs.length ≤ p.head.t + 1
  head : p.head.t ≤ 3
  bytes : p.bytes.length ≤ 16384
  mono : ∀ k (h : k < p.segs.length), p.segs[k].2 ≤ endAt p.bytes p.segs (k + 1)
  ends : ∀ j, endAt p.bytes p.segs j ≤ p.bytes.length

theorem checkF_zero {f : Fr} (h : checkF f = 0) : f.t ≤ 3 ∧ f.k ≤ 15 ∧ f.p.size ≤ 4084 := by
  unfold checkF at h
  split at h
  · cases h
  · omega

theorem refused_zero {f : Fr} {o : Option Pt} (h : refusedD f o = 0) : checkF f = 0 ∧ fitsD f o = true ∧ (o.getD pt0).bytes.length + f.p.size ≤ 16384 := by
  unfold refusedD at h
  split at h
  · omega
  · rename_i h1
    split at h
    · omega
    · rename_i h2
      split at h
      · omega
      · rename_i h3
        exact ⟨by omega, by simpa using h2, by omega⟩

theorem endAt_le {bytes : List UInt8} {segs : List (Nat × Nat)} (h : ∀ k (h : k < segs.length), segs[k].2 ≤ bytes.length) (j : Nat) : endAt bytes segs j ≤ bytes.length := by
  unfold endAt
  split
  · exact h _ _
  · exact Nat.le_refl _

theorem PtOk.froms {p : Pt} (h : PtOk p) : ∀ k (hk : k < p.segs.length), p.segs[k].2 ≤ p.bytes.length := fun k hk => Nat.le_trans (h.mono k hk) (h.ends _)

theorem PtOk.grown {p : Pt} (h : PtOk p) (f : Fr) (hl : p.bytes.length + f.p.size ≤ 16384) (hh : (p.add f).segs.length ≤ (p.add f).head.t + 1 ∧ (p.add f).head.t ≤ 3) : PtOk (p.add f) := by
  have hfr := h.froms
  have hlen : (p.add f).bytes.length = p.bytes.length + f.p.size := by simp [Pt.add, sb_length]
  have hall : ∀ k (hk : k < (p.add f).segs.length), (p.add f).segs[k].2 ≤ (p.add f).bytes.length := by
    intro k hk
    rw [hlen]
    by_cases hkl : k < p.segs.length
    · have : (p.add f).segs[k] = p.segs[k] := by simp [Pt.add, List.getElem_append_left hkl]
      rw [this]
      have := hfr k hkl
      omega
    · simp only [Pt.add] at hk ⊢
      by_cases hc : f.c = true
      · simp only [hc, if_true] at hk ⊢
        rw [List.getElem_append_right (by omega)]
        simp
      · simp [hc] at hk
        omega
  refine ⟨hh.1, hh.2, by omega, ?_, endAt_le hall⟩
  intro k hk
  by_cases hc : f.c = true
  · have hs : (p.add f).segs = p.segs ++ [(f.t, p.bytes.length)] := by simp [Pt.add, hc]
    by_cases hkl : k < p.segs.length
    · have e1 : (p.add f).segs[k] = p.segs[k] := by simp [Pt.add, List.getElem_append_left hkl]
      rw [e1]
      by_cases hk1 : k + 1 < p.segs.length
      · have := h.mono k hkl
        have e2 : endAt (p.add f).bytes (p.add f).segs (k + 1) = endAt p.bytes p.segs (k + 1) := by
          unfold endAt
          rw [dif_pos hk1, dif_pos (by rw [hs]; simp; omega)]
          simp [Pt.add, List.getElem_append_left hk1]
        omega
      · have hk1' : k + 1 = p.segs.length := by omega
        have e2 : endAt (p.add f).bytes (p.add f).segs (k + 1) = p.bytes.length := by
          unfold endAt
          rw [dif_pos (by rw [hs]; simp; omega)]
          simp only [hs]
          rw [List.getElem_append_right (by omega)]
          simp
        have := hfr k hkl
        omega
    · have hkk : k = p.segs.length := by rw [hs] at hk; simp at hk; omega
      have e2 : endAt (p.add f).bytes (p.add f).segs (k + 1) = (p.add f).bytes.length := by
        unfold endAt
        rw [dif_neg (by rw [hs]; simp; omega)]
      rw [e2]
      exact hall k hk
  · have hs : (p.add f).segs = p.segs := by simp [Pt.add, hc]
    have hkl : k < p.segs.length := by rw [hs] at hk; exact hk
    have e1 : (p.add f).segs[k] = p.segs[k] := by simp [hs]
    rw [e1]
    by_cases hk1 : k + 1 < p.segs.length
    · have := h.mono k hkl
      have e2 : endAt (p.add f).bytes (p.add f).segs (k + 1) = endAt p.bytes p.segs (k + 1) := by
        unfold endAt
        rw [dif_pos hk1, dif_pos (by rw [hs]; exact hk1)]
        simp [hs]
      omega
    · have e2 : endAt (p.add f).bytes (p.add f).segs (k + 1) = (p.add f).bytes.length := by
        unfold endAt
        rw [dif_neg (by rw [hs]; exact hk1)]
      have := hfr k hkl
      omega

theorem ptOk0 (t : Nat) : PtOk { pt0 with head := { fr0 with t := 0 } } :=
  ⟨by simp [pt0], by simp, by simp [pt0], fun k hk => by simp [pt0] at hk, fun j => by simp [endAt, pt0]⟩

/-- What is open, with one frame more. -/
theorem PtOk.added {f : Fr} {o : Option Pt} (h : ∀ p, o = some p → PtOk p) (hr : refusedD f o = 0) : PtOk ((o.getD pt0).add f) := by
  obtain ⟨hc, hfit, hl⟩ := refused_zero hr
  obtain ⟨ht, _, _⟩ := checkF_zero hc
  cases o with
  | none =>
    have h0 : PtOk pt0 := ptOk0 0
    refine h0.grown f hl ?_
    simp only [fitsD, Bool.and_eq_true] at hfit
    have hfc : f.c = true := hfit.1.1.2
    simp [Pt.add, hfc, pt0]
    omega
  | some p =>
    have h0 := h p rfl
    refine h0.grown f hl ?_
    have hs := h0.segs
    have hh := h0.head
    simp only [fitsD] at hfit
    by_cases hw : p.whole = false
    · rw [if_pos hw] at hfit
      simp only [Bool.and_eq_true] at hfit
      have hfc : f.c = false := by simpa using hfit.1.1.1
      simp [Pt.add, hfc]
      omega
    · rw [if_neg hw] at hfit
      simp only [Bool.and_eq_true, decide_eq_true_eq] at hfit
      have hfc : f.c = true := hfit.1.1
      simp [Pt.add, hfc]
      omega

/-! ### In memory -/
/-- What stands at a place, and its two rows. -/
structure Cel where
  p : Pt
  v1 : Value
  v2 : Value
def Cel.val (c : Cel) : Value := .agg (ptVs c.v1 c.v2 c.p.head c.p.whole).toArray
def Cel.has (c : Cel) (k : Nat) : Prop := c.v1.ownBlock = some k ∨ c.v2.ownBlock = some k
def cel0 : Cel := ⟨pt0, .slice none 0 0, .slice none 0 0⟩

structure CelW (w : World) (B : Nat) (c : Cel) : Prop where
  o1 : OwnG sgmC 74 w B c.v1 c.p.segs
  o2 : Own 5 w B c.v2 c.p.bytes
theorem CelW.zero (w : World) (B : Nat) : CelW w B cel0 := ⟨OwnG.nil_ _ _ _ _, Own.nil_ _ _ _⟩
theorem CelW.keep {w w' : World} {B : Nat} {c : Cel} (h : CelW w B c) (hk : ∀ k, c.has k → w'.heap[k]? = w.heap[k]?) : CelW w' B c :=
  ⟨h.o1.keep fun g hg => hk g (.inl hg), h.o2.keep fun g hg => hk g (.inr hg)⟩
theorem CelW.has {w : World} {B k : Nat} {c : Cel} (h : CelW w B c) (hk : c.has k) : B ≤ k ∧ k < w.heap.size := by
  rcases hk with hk | hk
  · exact h.o1.block k hk
  · exact h.o2.block k hk
theorem CelW.ne {w : World} {B k : Nat} {c : Cel} (h : CelW w B c) (hk : c.has k) {cs : Array Value} {e : TypeId} {fr : Nat × Nat} (hb : w.heap[k]? = some (.cells cs e fr)) (h1 : 74 ≠ e) (h2 : 5 ≠ e) : False := by
  rcases hk with hk | hk
  · exact own_ne h.o1 hb h1 hk
  · exact own8_ne h.o2 hb h2 hk
theorem CelW.neMap {w : World} {B k : Nat} {c : Cel} (h : CelW w B c) (hk : c.has k) {es : Array MapEntry} {clock : Nat} (hb : w.heap[k]? = some (.map es clock)) : False := by
  rcases hk with hk | hk
  · rcases h.o1.2 with ⟨e, _⟩ | ⟨g, cap, cur, e, _, hg, _⟩
    · rw [e] at hk; cases hk
    · rw [e] at hk; cases hk; rw [hg] at hb; injection hb with hb; cases hb
  · rcases h.o2.2 with ⟨e, _⟩ | ⟨g, cap, cur, e, _, hg, _⟩
    · rw [e] at hk; cases hk
    · rw [e] at hk; cases hk; rw [hg] at hb; injection hb with hb; cases hb

/-- The gatherer's blocks. -/
def GF (gb mb : Nat) (cs : List (Plc × Cel)) (k : Nat) : Prop := k = gb ∨ k = mb ∨ ∃ x ∈ cs, x.2.has k

/-- A gatherer that is alive. -/
structure GL (w : World) (B gb mb : Nat) (cs : List (Plc × Cel)) : Prop where
  box : w.heap[gb]? = some (.cells #[.int .u8 1, .map (some mb)] 54 (0, 0))
  map : MapIs w mb (cs.map fun x => (x.1, x.2.val))
  cel : ∀ x ∈ cs, CelW w B x.2 ∧ PtOk x.2.p
  apart : cs.Pairwise fun x y => ∀ k, x.2.has k → ¬ y.2.has k
  bg : B ≤ gb
  bm : B ≤ mb

section
variable {w w' : World} {B gb mb : Nat} {cs : List (Plc × Cel)}
theorem GL.lt (h : GL w B gb mb cs) : gb < w.heap.size := (Array.getElem?_eq_some_iff.1 h.box).1
theorem GL.ne (h : GL w B gb mb cs) : gb ≠ mb := by
  obtain ⟨⟨es, clock, hb, _⟩, _⟩ := h.map
  intro e
  rw [← e, h.box] at hb
  injection hb with hb
  cases hb
theorem GL.foot (h : GL w B gb mb cs) : ∀ k, GF gb mb cs k → B ≤ k ∧ k < w.heap.size := by
  rintro k (rfl | rfl | ⟨x, hx, hk⟩)
  · exact ⟨h.bg, h.lt⟩
  · exact ⟨h.bm, h.map.lt⟩
  · exact (h.cel x hx).1.has hk
theorem GL.keep (h : GL w B gb mb cs) (hk : ∀ k, GF gb mb cs k → w'.heap[k]? = w.heap[k]?) : GL w' B gb mb cs :=
  ⟨(hk gb (.inl rfl)).trans h.box, h.map.keep (hk mb (.inr (.inl rfl))), fun x hx => ⟨(h.cel x hx).1.keep fun k hk' => hk k (.inr (.inr ⟨x, hx, hk'⟩)), (h.cel x hx).2⟩, h.apart, h.bg, h.bm⟩
theorem GL.nodup (h : GL w B gb mb cs) : (cs.map (·.1)).Nodup := by
  have := h.map.2.2
  rwa [List.map_map] at this
theorem GL.c0 (h : GL w B gb mb cs) : w.cell? ⟨gb, 0, none⟩ = some (.int .u8 1) := by rw [cell_of_row w gb _ _ 54 (0, 0) h.box]; rfl
theorem GL.c1 (h : GL w B gb mb cs) : w.cell? ⟨gb, 1, none⟩ = some (.map (some mb)) := by rw [cell_of_row w gb _ _ 54 (0, 0) h.box]; rfl
theorem GL.fr (h : GL w B gb mb cs) (i : Nat) : w.frozen? ⟨gb, i, none⟩ = false := frozen_of_row w gb i _ 54 h.box
end

/-- The cell at a place. -/
def celAt (cs : List (Plc × Cel)) (q : Plc) : Cel := (getM cs q).getD cel0
theorem celAt_w {w : World} {B gb mb : Nat} {cs : List (Plc × Cel)} (h : GL w B gb mb cs) (q : Plc) : CelW w B (celAt cs q) := by
  unfold celAt
  cases hq : getM cs q with
  | none => exact CelW.zero w B
  | some c => exact (h.cel _ (getM_mem hq)).1
theorem celAt_p (cs : List (Plc × Cel)) (q : Plc) : (celAt cs q).p = ((getM (cs.map fun x => (x.1, x.2.p)) q).getD pt0) := by
  unfold celAt
  rw [getM_map]
  cases getM cs q <;> rfl
theorem celAt_ok {w : World} {B gb mb : Nat} {cs : List (Plc × Cel)} (h : GL w B gb mb cs) (q : Plc) : ∀ p, getM (cs.map fun x => (x.1, x.2.p)) q = some p → PtOk p := by
  intro p hp
  rw [getM_map] at hp
  cases hq : getM cs q with
  | none => rw [hq] at hp; cases hp
  | some c =>
    rw [hq] at hp
    cases hp
    exact (h.cel _ (getM_mem hq)).2
theorem celAt_has {cs : List (Plc × Cel)} {q : Plc} {k : Nat} (h : (celAt cs q).has k) : ∃ c, getM cs q = some c ∧ c.has k := by
  unfold celAt at h
  cases hq : getM cs q with
  | none => rw [hq] at h; rcases h with h | h <;> cases h
  | some c => rw [hq] at h; exact ⟨c, rfl, h⟩
theorem zeroPt (w : World) : (zeroValue 59).run Try.prog w = .ok cel0.val w := by kernel_rfl

theorem GL.look {w : World} {B gb mb : Nat} {cs : List (Plc × Cel)} (h : GL w B gb mb cs) {q : Plc} (hq : smallP q) :
    (Instr.lookup 52 (.map (some mb)) (keyV q) true).run Try.prog w = .ok (.tuple #[(celAt cs q).val, .bool (getM cs q).isSome]) w := by
  rw [h.map.look hq (zeroPt w), getM_map]
  unfold celAt
  cases getM cs q <;> rfl

section
variable {α : Type} {R : Plc × α → Plc × α → Prop}
theorem putM_pairwise {q : Plc} {v : α} (hs : ∀ x y, R x y → R y x) : ∀ {L : List (Plc × α)}, (L.map (·.1)).Nodup → L.Pairwise R → (∀ y ∈ L, y.1 ≠ q → R (q, v) y) → (putM L q v).Pairwise R
  | [], _, _, _ => by simp [putM]
  | x :: r, hn, h, hv => by
    rw [List.map_cons, List.nodup_cons] at hn
    rw [List.pairwise_cons] at h
    unfold putM
    split
    · rename_i e
      refine List.pairwise_cons.2 ⟨fun y hy => hv y (by simp [hy]) fun e2 => ?_, h.2⟩
      exact hn.1 (by rw [e, ← e2]; exact List.mem_map.2 ⟨_, hy, rfl⟩)
    · rename_i e
      refine List.pairwise_cons.2 ⟨fun y hy => ?_, putM_pairwise hs hn.2 h.2 fun y hy => hv y (by simp [hy])⟩
      rcases mem_putM hy with rfl | ⟨hy, _⟩
      · exact hs _ _ (hv x (by simp) e)
      · exact h.1 y hy
end

theorem apart_at {w : World} {B gb mb : Nat} {cs : List (Plc × Cel)} (h : GL w B gb mb cs) {q : Plc} {c : Cel} (hc : getM cs q = some c) {y : Plc × Cel} (hy : y ∈ cs) (hne : y.1 ≠ q) (k : Nat) (hk : c.has k) : ¬ y.2.has k := by
  have hsym : ∀ x y : Plc × Cel, (∀ k, x.2.has k → ¬ y.2.has k) → (∀ k, y.2.has k → ¬ x.2.has k) := fun x y h k h1 h2 => h k h2 h1
  have hxm := getM_mem hc
  have := List.Pairwise.forall_of_forall_of_flip (R := fun x y : Plc × Cel => x.1 ≠ y.1 → ∀ k, x.2.has k → ¬ y.2.has k) (l := cs) (fun x hx hne => absurd rfl hne)
    (h.apart.imp (fun {a b} h (_ : a.1 ≠ b.1) => h)) (h.apart.imp (fun {a b} h (_ : b.1 ≠ a.1) k h1 h2 => h k h2 h1))
  exact this hxm hy (fun e => hne e.symm) k hk

/-- A gatherer that is dead. -/
def GD (w : World) (gb : Nat) : Prop := w.heap[gb]? = some (.cells #[.int .u8 2, .map none] 54 (0, 0))

/-- A gatherer with what is open in it (none: it is dead), and its blocks. -/
def GW (w : World) (B gb : Nat) (o : Option (List (Plc × Pt))) (F : Nat → Prop) : Prop :=
  match o with
  | none => GD w gb ∧ B ≤ gb ∧ F = fun k => k = gb
  | some M => ∃ mb cs, GL w B gb mb cs ∧ M = cs.map (fun x => (x.1, x.2.p)) ∧ F = GF gb mb cs

theorem GW.foot {w : World} {B gb : Nat} {o : Option (List (Plc × Pt))} {F : Nat → Prop} (h : GW w B gb o F) : ∀ k, F k → B ≤ k ∧ k < w.heap.size := by
  cases o with
  | none =>
    obtain ⟨h1, h2, rfl⟩ := h
    rintro k rfl
    exact ⟨h2, (Array.getElem?_eq_some_iff.1 h1).1⟩
  | some M =>
    obtain ⟨mb, cs, h1, _, rfl⟩ := h
    exact h1.foot
theorem GW.keep {w w' : World} {B gb : Nat} {o : Option (List (Plc × Pt))} {F : Nat → Prop} (h : GW w B gb o F) (hk : ∀ k, F k → w'.heap[k]? = w.heap[k]?) : GW w' B gb o F := by
  cases o with
  | none =>
    obtain ⟨h1, h2, rfl⟩ := h
    exact ⟨(hk gb rfl).trans h1, h2, rfl⟩
  | some M =>
    obtain ⟨mb, cs, h1, h2, rfl⟩ := h
    exact ⟨mb, cs, h1.keep hk, h2, rfl⟩

set_option maxRecDepth 100000 in
theorem new_any (w : World) : Calls Try.prog 5 #[] w fun e w' => ∃ gb F, e = .returned (.pointer (some ⟨gb, 0, none⟩)) ∧ GW w' w.heap.size gb (some []) F ∧ Below w.heap.size w w' := by
  have hmm := @run_makeMap Try.prog
  go_enter Try.func5, Try.ntmps5
  go_wp2_with fail
  go_ret
  refine ⟨_, _, rfl, ⟨w.heap.size, [], ⟨?_, ?_, by simp, by simp, by simp, Nat.le_refl _⟩, rfl, rfl⟩, ?_⟩
  · have := heap_alloc_new (w.alloc (.map #[] 0)) (.cells #[.int .u8 1, .map (some w.heap.size)] 54)
    simpa using this
  · refine (MapIs.new w).keep ?_
    exact Below.heap_alloc _ _ _ (by simp)
  · exact (f_below_box w _).alloc (by simp) _

end Go.Proofs.Ytocankfabgjjmaa
