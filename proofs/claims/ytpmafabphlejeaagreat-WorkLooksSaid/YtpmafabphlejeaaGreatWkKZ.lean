/-
  Texts, together: WkK, WkR.
  Conditions: none but sizes.
-/
import Derived.Shelf.Abstract
import Derived.Test.YtpmafabphlejeaaGreatWkHZ
/-
  The contracts of the program's AddPut and AddTake.
  Conditions: at most 400 values in each put.
-/
namespace Go.Proofs.YtpmafabphlejeaaGreat
open Go.RowKit Go.Shelf
set_option linter.unusedVariables false
set_option linter.unusedSimpArgs false
set_option maxRecDepth 100000

theorem RowP.grow {w w' : World} {A : Option Addr} {n : Nat} {cs : List PutC} {c : PutC} {base : Nat} {v : Value} (h : RowP w A n cs) (hc : PutAt w c) (hb : Below w.heap.size w w') (ho : OwnG putC 35 w' base v (cs ++ [c])) (hl : cs.length ≤ 100) : ∃ A' n', v = .slice A' (cs ++ [c]).length n' ∧ RowP w' A' n' (cs ++ [c]) := by
  obtain ⟨A', n', hv, _⟩ := ho.form
  obtain ⟨g, _, hs⟩ := ho.shows
  rw [hv] at hs
  refine ⟨A', n', hv, ⟨g, hs⟩, fun j hj => ?_, by rw [List.length_append, List.length_singleton]; omega⟩
  by_cases hjc : j < cs.length
  · rw [List.getElem_append_left hjc]; exact (h.each j hjc).kept hb (Nat.le_refl _)
  · have hj0 : j = cs.length := by rw [List.length_append, List.length_singleton] at hj; omega
    subst hj0
    rw [List.getElem_append_right (Nat.le_refl _)]
    simp only [Nat.sub_self, List.getElem_cons_zero]
    exact hc.kept hb (Nat.le_refl _)
theorem RowR.grow {w w' : World} {A : Option Addr} {n : Nat} {rs : List RefE} {r : RefE} {base : Nat} {v : Value} (h : RowR w A n rs) (hc : RefAt r) (ho : OwnG refC 37 w' base v (rs ++ [r])) (hl : rs.length ≤ 100) : ∃ A' n', v = .slice A' (rs ++ [r]).length n' ∧ RowR w' A' n' (rs ++ [r]) := by
  obtain ⟨A', n', hv, _⟩ := ho.form
  obtain ⟨g, _, hs⟩ := ho.shows
  rw [hv] at hs
  refine ⟨A', n', hv, ⟨g, hs⟩, fun j hj => ?_, by rw [List.length_append, List.length_singleton]; omega⟩
  by_cases hjc : j < rs.length
  · rw [List.getElem_append_left hjc]; exact h.each j hjc
  · have hj0 : j = rs.length := by rw [List.length_append, List.length_singleton] at hj; omega
    subst hj0
    rw [List.getElem_append_right (Nat.le_refl _)]
    simp only [Nat.sub_self, List.getElem_cons_zero]
    exact hc
theorem fewS_snoc {cs : List PutC} {c : PutC} (h : FewS cs) (hc : cntT c.e.p.app ≤ 400) : FewS (cs ++ [c]) := by
  rw [fewS_iff, esOf_snoc]
  rw [fewS_iff] at h
  intro p hp
  rcases List.mem_append.1 hp with h1 | h1
  · exact h p h1
  · rw [List.mem_singleton.1 h1]; exact hc
theorem fewS_one {c : PutC} (hc : cntT c.e.p.app ≤ 400) : FewS [c] := fewS_snoc (cs := []) (fun j hj => absurd hj (by simp)) hc

/-- What is added is called on a work that may be: AddPut. -/
theorem addP1_clo (x : WorkC) (c : PutC) (pb : Nat) (w : World) (h : ShowsW w x) (hc : PutAt w c) (hp : BoxT w pb c) (hf : FewS x.cs) (hcc : cntT c.e.p.app ≤ 400) (hl : x.cs.length ≤ 100) (hl2 : x.rs.length ≤ 100) (ec : Nat) (hec : ec = if 100 ≤ x.cs.length then 6 else 0) :
    ∀ w', Below w.heap.size w w' → BoxK w' w.heap.size (.slice x.A1 x.cs.length x.cs.length) (.slice x.A2 x.rs.length x.rs.length) → Calls Tryz.prog 36 #[.pointer (some ⟨w.heap.size, 0, none⟩), .pointer (some ⟨pb, 0, none⟩)] w' fun e w'' => e = .returned (.int .i64 (ec : Int)) ∧ w'.grownBy w'' (some w.heap.size) ∧ ((ec : Int) = 0 → CloOK w.heap.size (x.ps ++ [c.e]) x.rs w' w'') := by
  intro w' hb hbx
  by_cases h100 : 100 ≤ x.cs.length
  · rw [if_pos h100] at hec
    subst hec
    refine (addP1_full w.heap.size pb x.A1 _ x.cs w' hbx (by omega)).mono ?_
    rintro e w2 ⟨rfl, rfl⟩
    exact ⟨rfl, ⟨rfl, rfl, rfl, Nat.le_refl _, fun _ _ _ => rfl⟩, fun h => by cases h⟩
  · rw [if_neg h100] at hec
    subst hec
    refine (addP1_room w.heap.size pb x.A1 _ x.cs c w' hbx (hp.kept hb (Nat.le_refl _)) (h.puts.cut.kept hb (Nat.le_refl _)) (by omega)).mono ?_
    rintro e w2 ⟨v', rfl, ho, hbx2, hg⟩
    have hb2 : Below w.heap.size w w2 := hb.grown hg hb.size (fun k e => by have := Option.some.inj e; omega)
    obtain ⟨A', n', rfl, hrow⟩ := h.puts.grow hc hb2 ho hl
    exact ⟨rfl, hg, fun _ => ⟨⟨⟨A', n', x.cs ++ [c], x.A2, x.rs.length, x.rs⟩, hbx2, ⟨hrow, h.takes.cut.kept hb2 (Nat.le_refl _)⟩, esOf_snoc _ _, rfl, fewS_snoc hf hcc, by simp; omega, hl2⟩, hg⟩⟩
theorem addT1_clo (x : WorkC) (r : RefE) (pb : Nat) (w : World) (h : ShowsW w x) (hr : RefAt r) (hp : BoxR2 w pb r) (hf : FewS x.cs) (hl : x.cs.length ≤ 100) (hl2 : x.rs.length ≤ 100) (ec : Nat) (hec : ec = if r ∈ x.rs then 8 else if 100 ≤ x.rs.length then 6 else 0) :
    ∀ w', Below w.heap.size w w' → BoxK w' w.heap.size (.slice x.A1 x.cs.length x.cs.length) (.slice x.A2 x.rs.length x.rs.length) → Calls Tryz.prog 38 #[.pointer (some ⟨w.heap.size, 0, none⟩), .pointer (some ⟨pb, 0, none⟩)] w' fun e w'' => e = .returned (.int .i64 (ec : Int)) ∧ w'.grownBy w'' (some w.heap.size) ∧ ((ec : Int) = 0 → CloOK w.heap.size x.ps (x.rs ++ [r]) w' w'') := by
  intro w' hb hbx
  have gb : ∀ w2, Below w'.heap.size w' w2 → w'.grownBy w2 (some w.heap.size) := fun w2 h2 => ⟨h2.os, h2.tape, h2.output, h2.size, fun k hk _ => h2.block k hk⟩
  by_cases hi : r ∈ x.rs
  · rw [if_pos hi] at hec
    subst hec
    refine (addT1_there w.heap.size pb x.A2 _ x.rs r w' hbx (hp.kept hb (Nat.le_refl _)) (h.takes.cut.kept hb (Nat.le_refl _)) hl2 hi).mono ?_
    rintro e w2 ⟨rfl, hb2⟩
    exact ⟨rfl, gb _ hb2, fun h => by cases h⟩
  rw [if_neg hi] at hec
  by_cases h100 : 100 ≤ x.rs.length
  · rw [if_pos h100] at hec
    subst hec
    refine (addT1_full w.heap.size pb x.A2 _ x.rs r w' hbx (hp.kept hb (Nat.le_refl _)) (h.takes.cut.kept hb (Nat.le_refl _)) (by omega) hi).mono ?_
    rintro e w2 ⟨rfl, hb2⟩
    exact ⟨rfl, gb _ hb2, fun h => by cases h⟩
  · rw [if_neg h100] at hec
    subst hec
    refine (addT1_room w.heap.size pb x.A2 _ x.rs r w' hbx (hp.kept hb (Nat.le_refl _)) (h.takes.cut.kept hb (Nat.le_refl _)) (by omega) hi).mono ?_
    rintro e w2 ⟨v', rfl, ho, hbx2, hg⟩
    have hb2 : Below w.heap.size w w2 := hb.grown hg hb.size (fun k e => by have := Option.some.inj e; omega)
    obtain ⟨A', n', rfl, hrow⟩ := h.takes.grow hr ho hl2
    exact ⟨rfl, hg, fun _ => ⟨⟨⟨x.A1, x.cs.length, x.cs, A', n', x.rs ++ [r]⟩, hbx2, ⟨h.puts.cut.kept hb2 (Nat.le_refl _), hrow⟩, rfl, rfl, hf, hl, by simp; omega⟩, hg⟩⟩

/-- added, with AddPut's closure. -/
theorem addedP_any (x o : WorkC) (c : PutC) (pb : Nat) (w : World) (h : ShowsW w x) (hf : FewS x.cs) (ho : ShowsW w o) (hoc : o.ps = [c.e] ∧ o.rs = []) (hfo : FewS o.cs) (hc : PutAt w c) (hp : BoxT w pb c) (hcc : cntT c.e.p.app ≤ 400) :
    Calls Tryz.prog 35 #[workVal x, workVal o, .func (.func 36) #[] #[.pointer (some ⟨pb, 0, none⟩)]] w (AddedSaid (if errAP x.ps x.rs c.e = 0 then x.ps ++ [c.e] else []) (if errAP x.ps x.rs c.e = 0 then x.rs else []) (errAP x.ps x.rs c.e) w) := by
  by_cases hv : workV x.ps x.rs ∧ putMay false c.e
  · have hl : x.cs.length ≤ 100 := by have := hv.1.1; unfold WorkC.ps at this; rwa [esOf_len] at this
    have e : errAP x.ps x.rs c.e = if 100 ≤ x.cs.length then 6 else 0 := by
      unfold errAP
      rw [if_neg (fun h => h hv)]
      unfold WorkC.ps
      rw [esOf_len]
    exact added_good _ pb x o w h hf.few ho hfo.few (wB_iff.2 hv.1) (wB_iff.2 (by rw [hoc.1, hoc.2]; exact one_put.2 hv.2)) (enters_of Tryz.func36 (by kernel_rfl) rfl) _ _ _ (addP1_clo x c pb w h hc hp hf hcc hl hv.1.2.1 _ e) _ rfl
  · have e : errAP x.ps x.rs c.e = 130 := by
      unfold errAP
      rw [if_pos hv]
    rw [e, if_neg (by decide), if_neg (by decide)]
    refine added_bad _ pb x o w h hf.few ho hfo.few ?_
    by_cases h1 : workV x.ps x.rs
    · exact .inr (wB_no (fun h2 => hv ⟨h1, one_put.1 (by rw [hoc.1, hoc.2] at h2; exact h2)⟩))
    · exact .inl (wB_no h1)
theorem addedT_any (x o : WorkC) (r : RefE) (pb : Nat) (w : World) (h : ShowsW w x) (hf : FewS x.cs) (ho : ShowsW w o) (hoc : o.ps = [] ∧ o.rs = [r]) (hfo : FewS o.cs) (hr : RefAt r) (hp : BoxR2 w pb r) :
    Calls Tryz.prog 35 #[workVal x, workVal o, .func (.func 38) #[] #[.pointer (some ⟨pb, 0, none⟩)]] w (AddedSaid (if errAT x.ps x.rs r = 0 then x.ps else []) (if errAT x.ps x.rs r = 0 then x.rs ++ [r] else []) (errAT x.ps x.rs r) w) := by
  by_cases hv : workV x.ps x.rs ∧ refMay r = true
  · have hl : x.cs.length ≤ 100 := by have := hv.1.1; unfold WorkC.ps at this; rwa [esOf_len] at this
    have e : errAT x.ps x.rs r = if r ∈ x.rs then 8 else if 100 ≤ x.rs.length then 6 else 0 := by
      unfold errAT
      rw [if_neg (fun h => h hv)]
    exact added_good _ pb x o w h hf.few ho hfo.few (wB_iff.2 hv.1) (wB_iff.2 (by rw [hoc.1, hoc.2]; exact one_ref.2 hv.2)) (enters_of Tryz.func38 (by kernel_rfl) rfl) _ _ _ (addT1_clo x r pb w h hr hp hf hl hv.1.2.1 _ e) _ rfl
  · have e : errAT x.ps x.rs r = 130 := by
      unfold errAT
      rw [if_pos hv]
    rw [e, if_neg (by decide), if_neg (by decide)]
    refine added_bad _ pb x o w h hf.few ho hfo.few ?_
    by_cases h1 : workV x.ps x.rs
    · exact .inr (wB_no (fun h2 => hv ⟨h1, one_ref.1 (by rw [hoc.1, hoc.2] at h2; exact h2)⟩))
    · exact .inl (wB_no h1)

end Go.Proofs.YtpmafabphlejeaaGreat
/-
  The contracts of the program's AddPut and AddTake, whole.
  Conditions: at most 400 values in each put.
-/
namespace Go.Proofs.YtpmafabphlejeaaGreat
open Go.RowKit
set_option linter.unusedVariables false
set_option linter.unusedSimpArgs false
set_option maxRecDepth 100000

def oneP (b : Nat) (c : PutC) : WorkC := ⟨some ⟨b, 0, none⟩, 1, [c], none, 0, []⟩
def oneT (b : Nat) (r : RefE) : WorkC := ⟨none, 0, [], some ⟨b, 0, none⟩, 1, [r]⟩
theorem oneP_shows {w : World} {c : PutC} (hc : PutAt w c) : ShowsW (w.alloc (Obj.cells #[.string c.e.q, .int .u64 c.e.id, .string c.e.p.key, .bool c.e.p.dur, .bool c.e.p.red, .string c.e.p.id, .int .u8 c.x.k, .int .u64 c.x.n, .string c.x.s, .slice c.x.a3 c.x.n3 c.x.c3, .slice c.x.a4 c.x.n4 c.x.c4, .string c.e.body] 35)) (oneP w.heap.size c) :=
  ⟨⟨⟨_, ShowsG.lit (C := putC) [c] (by simp [Code.all, putC, PutC.vs]) (by simp [maxLen])⟩, fun j hj => by
    obtain rfl : j = 0 := by simp [oneP] at hj; exact hj
    exact hc.kept ((Below.refl _ _).alloc (Nat.le_refl _) _) (Nat.le_refl _), by simp [oneP]⟩, RowR.nil _⟩
theorem oneT_shows {w : World} {r : RefE} (hr : RefAt r) : ShowsW (w.alloc (Obj.cells #[.string r.q, .int .u64 r.id] 37)) (oneT w.heap.size r) :=
  ⟨RowP.nil _, ⟨⟨_, ShowsG.lit (C := refC) [r] (by simp [Code.all, refC, RefE.vs]) (by simp [maxLen])⟩, fun j hj => by
    obtain rfl : j = 0 := by simp [oneT] at hj; exact hj
    exact hr, by simp [oneT]⟩⟩
theorem set2_box {w : World} {b : Nat} {v1 v2 : Value} (h : BoxK w b v1 v2) (u1 u2 : Value) {w0 : World} {B : Nat} (hB : B ≤ b) (hb : Below B w0 w) : BoxK ((w.setCell ⟨b, 0, none⟩ u1).setCell ⟨b, 1, none⟩ u2) b u1 u2 ∧ Below B w0 ((w.setCell ⟨b, 0, none⟩ u1).setCell ⟨b, 1, none⟩ u2) ∧ ∀ i, i ≠ b → ((w.setCell ⟨b, 0, none⟩ u1).setCell ⟨b, 1, none⟩ u2).heap[i]? = w.heap[i]? :=
  ⟨(h.set0 u1).set1 u2, below_set (below_set hb hB _) hB _, fun i hi => (Below.heap_setCell _ _ _ _ (by show i ≠ b; exact hi)).trans (Below.heap_setCell _ _ _ _ (by show i ≠ b; exact hi))⟩

noncomputable def addPps (ps : List PutE) (rs : List RefE) (p : PutE) : List PutE := if errAP ps rs p = 0 then ps ++ [p] else []
noncomputable def addPrs (ps : List PutE) (rs : List RefE) (p : PutE) : List RefE := if errAP ps rs p = 0 then rs else []
noncomputable def addTps (ps : List PutE) (rs : List RefE) (r : RefE) : List PutE := if errAT ps rs r = 0 then ps else []
noncomputable def addTrs (ps : List PutE) (rs : List RefE) (r : RefE) : List RefE := if errAT ps rs r = 0 then rs ++ [r] else []

set_option maxHeartbeats 4000000 in
theorem addput_any (x : WorkC) (c : PutC) (w : World) (h : ShowsW w x) (hf : FewS x.cs) (hc : PutAt w c) (hcc : cntT c.e.p.app ≤ 400) :
    Calls Tryz.prog 11 #[workVal x, putV c] w (AddedSaid (addPps x.ps x.rs c.e) (addPrs x.ps x.rs c.e) (errAP x.ps x.rs c.e) w) := by
  have HAD := Lib.hid (fun b w' (hb : Below w.heap.size w w') (ho : ShowsW w' (oneP b c)) (hp : BoxT w' (w.heap.size + 1) c) => addedP_any x (oneP b c) c (w.heap.size + 1) w' (h.kept hb (Nat.le_refl _)) hf ho ⟨rfl, rfl⟩ (fewS_one hcc) (hc.kept hb (Nat.le_refl _)) hp hcc)
  unfold addPps addPrs
  obtain ⟨P1, hP1⟩ : ∃ P1, P1 = if errAP x.ps x.rs c.e = 0 then x.ps ++ [c.e] else [] := ⟨_, rfl⟩
  obtain ⟨P2, hP2⟩ : ∃ P2, P2 = if errAP x.ps x.rs c.e = 0 then x.rs else [] := ⟨_, rfl⟩
  rw [← hP1, ← hP2] at HAD ⊢
  generalize errAP x.ps x.rs c.e = ER at *
  clear hP1 hP2 h hf hcc
  obtain ⟨A1, c1, cs, A2, c2, rs⟩ := x
  unfold AddedSaid workVal oneP putV at *
  simp only [] at HAD ⊢
  obtain ⟨W1, hW1⟩ : ∃ W1, W1 = ((w.alloc (Obj.cells #[.slice A1 cs.length c1, .slice A2 rs.length c2] 25)).alloc (Obj.cells #[.string c.e.q, .int .u64 c.e.id, .string c.e.p.key, .bool c.e.p.dur, .bool c.e.p.red, .string c.e.p.id, .int .u8 c.x.k, .int .u64 c.x.n, .string c.x.s, .slice c.x.a3 c.x.n3 c.x.c3, .slice c.x.a4 c.x.n4 c.x.c4, .string c.e.body] 35)).alloc (Obj.cells #[.slice none 0 0, .slice none 0 0] 25) := ⟨_, rfl⟩
  have hs1 : W1.heap.size = w.heap.size + 1 + 1 + 1 := by rw [hW1]; simp
  have hb1 : Below w.heap.size w W1 := by rw [hW1]; exact ((below_boxV _ _).alloc (by simp) _).alloc (by simp; omega) _
  have hA1 : BoxK W1 w.heap.size (.slice A1 cs.length c1) (.slice A2 rs.length c2) := by
    rw [hW1]; exact ((BoxK.new w _ _).kept ((Below.refl _ _).alloc (Nat.le_refl _) _) (Nat.le_refl _)).kept ((Below.refl _ _).alloc (Nat.le_refl _) _) (Nat.le_refl _)
  have hT1 : BoxT W1 (w.heap.size + 1) c := by
    rw [hW1]
    have := BoxT.new (c := c) (w.alloc (Obj.cells #[.slice A1 cs.length c1, .slice A2 rs.length c2] 25))
    rw [World.size_alloc] at this
    exact this.kept ((Below.refl _ _).alloc (Nat.le_refl _) _) (Nat.le_refl _)
  have hZ1 : BoxK W1 (w.heap.size + 1 + 1) (.slice none 0 0) (.slice none 0 0) := by
    rw [hW1]
    have := BoxK.new ((w.alloc (Obj.cells #[.slice A1 cs.length c1, .slice A2 rs.length c2] 25)).alloc (Obj.cells #[.string c.e.q, .int .u64 c.e.id, .string c.e.p.key, .bool c.e.p.dur, .bool c.e.p.red, .string c.e.p.id, .int .u8 c.x.k, .int .u64 c.x.n, .string c.x.s, .slice c.x.a3 c.x.n3 c.x.c3, .slice c.x.a4 c.x.n4 c.x.c4, .string c.e.body] 35)) (.slice none 0 0) (.slice none 0 0)
    rw [World.size_alloc, World.size_alloc] at this
    exact this
  obtain ⟨⟨e0, e1, e2, e3, e4, e5⟩, e6, e7, e8, e9, e10, e11⟩ := hT1.cells
  obtain ⟨W2, hW2⟩ : ∃ W2, W2 = (W1.alloc (Obj.cells #[.string c.e.q, .int .u64 c.e.id, .string c.e.p.key, .bool c.e.p.dur, .bool c.e.p.red, .string c.e.p.id, .int .u8 c.x.k, .int .u64 c.x.n, .string c.x.s, .slice c.x.a3 c.x.n3 c.x.c3, .slice c.x.a4 c.x.n4 c.x.c4, .string c.e.body] 35)).alloc (Obj.cells #[.slice (some ⟨W1.heap.size, 0, none⟩) 1 1, .slice none 0 0] 25) := ⟨_, rfl⟩
  have hb12 : Below W1.heap.size W1 W2 := by rw [hW2]; exact (below_boxV W1 _).alloc (by simp) _
  have hk2 : BoxK W2 (W1.heap.size + 1) (.slice (some ⟨W1.heap.size, 0, none⟩) 1 1) (.slice none 0 0) := by
    rw [hW2]
    have := BoxK.new (W1.alloc (Obj.cells #[.string c.e.q, .int .u64 c.e.id, .string c.e.p.key, .bool c.e.p.dur, .bool c.e.p.red, .string c.e.p.id, .int .u8 c.x.k, .int .u64 c.x.n, .string c.x.s, .slice c.x.a3 c.x.n3 c.x.c3, .slice c.x.a4 c.x.n4 c.x.c4, .string c.e.body] 35)) (.slice (some ⟨W1.heap.size, 0, none⟩) 1 1) (.slice none 0 0)
    rw [World.size_alloc] at this
    exact this
  have hsh2 : ShowsW W2 (oneP W1.heap.size c) := by
    rw [hW2]; exact (oneP_shows (hc.kept hb1 (Nat.le_refl _))).kept ((Below.refl _ _).alloc (Nat.le_refl _) _) (Nat.le_refl _)
  have hA2 := hA1.kept hb12 (Nat.le_refl _)
  have hb2 := hb1.trans (hb12.mono hb1.size)
  have HCALL := Lib.hid (HAD.out W1.heap.size W2 hb2 hsh2 (hT1.kept hb12 (Nat.le_refl _)))
  have HZ := Lib.hid (And.intro (hZ1.kept hb12 (Nat.le_refl _)) hb2)
  have k0 := hA2.c0
  have k1 := hA2.c1
  have m0 := hk2.c0
  have m1 := hk2.c1
  have HW1 := Lib.hid hW1.symm
  have HW2 := Lib.hid hW2.symm
  clear hc hW1 hW2 hs1 hb1 hA1 hT1 hZ1 hb12 hk2 hsh2 hA2 hb2
  go_enter Tryz.func11, Tryz.ntmps11
  go_upto_region 1 with fail
  rw [HW1.out]
  go_upto_region 2 with fail
  rw [HW2.out]
  clear e0 e1 e2 e3 e4 e5 e6 e7 e8 e9 e10 e11
  go_wp2_with fail
  refine HCALL.out.mono ?_
  rintro e w3 ⟨⟨F1, f1, gs, F2, f2, hs⟩, rfl, hp3, hr3, ho3, hb3⟩
  have hz3 := HZ.out.1.kept hb3 (Nat.le_refl _)
  obtain ⟨hX, hB, hk⟩ := set2_box hz3 (.slice F1 gs.length f1) (.slice F2 hs.length f2) (by omega : w.heap.size ≤ w.heap.size + 1 + 1) (HZ.out.2.trans (hb3.mono HZ.out.2.size))
  have hzl := HZ.out.1.lt
  have hO := (ho3.keep (by simp) (fun k hk' _ => hk k (by omega))).mono (b' := w.heap.size) HZ.out.2.size
  have z0 := hz3.c0
  have z1 := hz3.c1
  have g0 := hz3.fr 0
  have g1 := hz3.fr 1
  have HX := Lib.hid (And.intro hX (And.intro hB (And.intro hO (And.intro hp3 hr3))))
  clear hX hB hk hO hp3 hr3 ho3 hb3 hz3 k0 k1 m0 m1 hzl
  go_wp2_with fail
  exact bodyPost_ret (results_row_tmp rfl _ _ (w.heap.size + 1 + 1) 25 _ (0, 0) _ rfl HX.out.1 Tryz.underlying25 rfl (by kernel_rfl)) rfl ⟨⟨F1, f1, gs, F2, f2, hs⟩, rfl, HX.out.2.2.2.1, HX.out.2.2.2.2, HX.out.2.2.1, HX.out.2.1⟩

set_option maxHeartbeats 4000000 in
theorem addtake_any (x : WorkC) (r : RefE) (w : World) (h : ShowsW w x) (hf : FewS x.cs) (hc : RefAt r) :
    Calls Tryz.prog 13 #[workVal x, refV r] w (AddedSaid (addTps x.ps x.rs r) (addTrs x.ps x.rs r) (errAT x.ps x.rs r) w) := by
  have HAD := Lib.hid (fun b w' (hb : Below w.heap.size w w') (ho : ShowsW w' (oneT b r)) (hp : BoxR2 w' (w.heap.size + 1) r) => addedT_any x (oneT b r) r (w.heap.size + 1) w' (h.kept hb (Nat.le_refl _)) hf ho ⟨rfl, rfl⟩ (fun j hj => absurd hj (by simp [oneT])) hc hp)
  unfold addTps addTrs
  obtain ⟨P1, hP1⟩ : ∃ P1, P1 = if errAT x.ps x.rs r = 0 then x.ps else [] := ⟨_, rfl⟩
  obtain ⟨P2, hP2⟩ : ∃ P2, P2 = if errAT x.ps x.rs r = 0 then x.rs ++ [r] else [] := ⟨_, rfl⟩
  rw [← hP1, ← hP2] at HAD ⊢
  generalize errAT x.ps x.rs r = ER at *
  clear hP1 hP2 h hf
  obtain ⟨A1, c1, cs, A2, c2, rs⟩ := x
  unfold AddedSaid workVal oneT refV at *
  simp only [] at HAD ⊢
  obtain ⟨W1, hW1⟩ : ∃ W1, W1 = ((w.alloc (Obj.cells #[.slice A1 cs.length c1, .slice A2 rs.length c2] 25)).alloc (Obj.cells #[.string r.q, .int .u64 r.id] 37)).alloc (Obj.cells #[.slice none 0 0, .slice none 0 0] 25) := ⟨_, rfl⟩
  have hs1 : W1.heap.size = w.heap.size + 1 + 1 + 1 := by rw [hW1]; simp
  have hb1 : Below w.heap.size w W1 := by rw [hW1]; exact ((below_boxV _ _).alloc (by simp) _).alloc (by simp; omega) _
  have hA1 : BoxK W1 w.heap.size (.slice A1 cs.length c1) (.slice A2 rs.length c2) := by
    rw [hW1]; exact ((BoxK.new w _ _).kept ((Below.refl _ _).alloc (Nat.le_refl _) _) (Nat.le_refl _)).kept ((Below.refl _ _).alloc (Nat.le_refl _) _) (Nat.le_refl _)
  have hT1 : BoxR2 W1 (w.heap.size + 1) r := by
    rw [hW1]
    have := BoxR2.new (w.alloc (Obj.cells #[.slice A1 cs.length c1, .slice A2 rs.length c2] 25)) r
    rw [World.size_alloc] at this
    exact this.kept ((Below.refl _ _).alloc (Nat.le_refl _) _) (Nat.le_refl _)
  have hZ1 : BoxK W1 (w.heap.size + 1 + 1) (.slice none 0 0) (.slice none 0 0) := by
    rw [hW1]
    have := BoxK.new ((w.alloc (Obj.cells #[.slice A1 cs.length c1, .slice A2 rs.length c2] 25)).alloc (Obj.cells #[.string r.q, .int .u64 r.id] 37)) (.slice none 0 0) (.slice none 0 0)
    rw [World.size_alloc, World.size_alloc] at this
    exact this
  have e0 := hT1.c0
  have e1 := hT1.c1
  obtain ⟨W2, hW2⟩ : ∃ W2, W2 = (W1.alloc (Obj.cells #[.string r.q, .int .u64 r.id] 37)).alloc (Obj.cells #[.slice none 0 0, .slice (some ⟨W1.heap.size, 0, none⟩) 1 1] 25) := ⟨_, rfl⟩
  have hb12 : Below W1.heap.size W1 W2 := by rw [hW2]; exact (below_boxV W1 _).alloc (by simp) _
  have hk2 : BoxK W2 (W1.heap.size + 1) (.slice none 0 0) (.slice (some ⟨W1.heap.size, 0, none⟩) 1 1) := by
    rw [hW2]
    have := BoxK.new (W1.alloc (Obj.cells #[.string r.q, .int .u64 r.id] 37)) (.slice none 0 0) (.slice (some ⟨W1.heap.size, 0, none⟩) 1 1)
    rw [World.size_alloc] at this
    exact this
  have hsh2 : ShowsW W2 (oneT W1.heap.size r) := by
    rw [hW2]; exact (oneT_shows hc).kept ((Below.refl _ _).alloc (Nat.le_refl _) _) (Nat.le_refl _)
  have hA2 := hA1.kept hb12 (Nat.le_refl _)
  have hb2 := hb1.trans (hb12.mono hb1.size)
  have HCALL := Lib.hid (HAD.out W1.heap.size W2 hb2 hsh2 (hT1.kept hb12 (Nat.le_refl _)))
  have HZ := Lib.hid (And.intro (hZ1.kept hb12 (Nat.le_refl _)) hb2)
  have k0 := hA2.c0
  have k1 := hA2.c1
  have m0 := hk2.c0
  have m1 := hk2.c1
  have HW1 := Lib.hid hW1.symm
  have HW2 := Lib.hid hW2.symm
  clear hc hW1 hW2 hs1 hb1 hA1 hT1 hZ1 hb12 hk2 hsh2 hA2 hb2
  go_enter Tryz.func13, Tryz.ntmps13
  go_upto_region 1 with fail
  rw [HW1.out]
  go_upto_region 2 with fail
  rw [HW2.out]
  clear e0 e1
  go_wp2_with fail
  refine HCALL.out.mono ?_
  rintro e w3 ⟨⟨F1, f1, gs, F2, f2, hs⟩, rfl, hp3, hr3, ho3, hb3⟩
  have hz3 := HZ.out.1.kept hb3 (Nat.le_refl _)
  obtain ⟨hX, hB, hk⟩ := set2_box hz3 (.slice F1 gs.length f1) (.slice F2 hs.length f2) (by omega : w.heap.size ≤ w.heap.size + 1 + 1) (HZ.out.2.trans (hb3.mono HZ.out.2.size))
  have hzl := HZ.out.1.lt
  have hO := (ho3.keep (by simp) (fun k hk' _ => hk k (by omega))).mono (b' := w.heap.size) HZ.out.2.size
  have z0 := hz3.c0
  have z1 := hz3.c1
  have g0 := hz3.fr 0
  have g1 := hz3.fr 1
  have HX := Lib.hid (And.intro hX (And.intro hB (And.intro hO (And.intro hp3 hr3))))
  clear hX hB hk hO hp3 hr3 ho3 hb3 hz3 k0 k1 m0 m1 hzl
  go_wp2_with fail
  exact bodyPost_ret (results_row_tmp rfl _ _ (w.heap.size + 1 + 1) 25 _ (0, 0) _ rfl HX.out.1 Tryz.underlying25 rfl (by kernel_rfl)) rfl ⟨⟨F1, f1, gs, F2, f2, hs⟩, rfl, HX.out.2.2.2.1, HX.out.2.2.2.2, HX.out.2.2.1, HX.out.2.1⟩

end Go.Proofs.YtpmafabphlejeaaGreat
