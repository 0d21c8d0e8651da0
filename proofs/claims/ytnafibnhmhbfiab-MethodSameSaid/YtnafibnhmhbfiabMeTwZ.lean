/-
  Two methods in boxes of the call's own; what Put tells, whether the method may be or not.
  Conditions: none but sizes.
-/
import Derived.Test.YtnafibnhmhbfiabMeSmZ
import Derived.Test.YtnafibnhmhbfiabMeLZ
import Derived.Test.YtnafibnhmhbfiabMeWZ
namespace Go.Proofs.Ytnafibnhmhbfiab
open Go.RowKit
set_option linter.unusedVariables false
set_option linter.unusedSimpArgs false

structure TwoM (w0 : World) (k1 c1 : Nat) (s1 : Bool) (v1 : Value) (k2 c2 : Nat) (s2 : Bool) (v2 : Value) (x : Value) (E1 : List UInt8) (y : Value) (E2 : List UInt8) (w : World) : Prop where
  a : BoxM w w0.heap.size k1 c1 s1 v1
  b : BoxM w (w0.heap.size + 1) k2 c2 s2 v2
  s1 : ∃ g, Shows w g x E1
  s2 : ∃ g, Shows w g y E2
  bel : Below w0.heap.size w0 w
section
variable {w0 w w' : World} {k1 c1 : Nat} {s1 : Bool} {v1 : Value} {k2 c2 : Nat} {s2 : Bool} {v2 : Value} {x : Value} {E1 : List UInt8} {y : Value} {E2 : List UInt8}
theorem shows_belowM {w w' : World} {v : Value} {E : List UInt8} (h : ∃ g, Shows w g v E) (hb : Below w.heap.size w w') : ∃ g, Shows w' g v E := by
  obtain ⟨g, hg⟩ := h
  exact ⟨g, hg.keep hb.size (fun hp => hb.block g (hg.lt hp))⟩
theorem TwoM.new (w0 : World) (k1 c1 : Nat) (s1 : Bool) (v1 : Value) (k2 c2 : Nat) (s2 : Bool) (v2 : Value) : TwoM w0 k1 c1 s1 v1 k2 c2 s2 v2 (.slice none 0 0) [] (.slice none 0 0) [] ((w0.alloc (Obj.cells #[.int .u8 k1, .int .u8 c1, .bool s1, v1] 53)).alloc (Obj.cells #[.int .u8 k2, .int .u8 c2, .bool s2, v2] 53)) := by
  have hB1 := below_box w0 (Obj.cells #[.int .u8 k1, .int .u8 c1, .bool s1, v1] 53)
  have hB2 := below_box (w0.alloc (Obj.cells #[.int .u8 k1, .int .u8 c1, .bool s1, v1] 53)) (Obj.cells #[.int .u8 k2, .int .u8 c2, .bool s2, v2] 53)
  have hX2 := BoxM.new (w0.alloc (Obj.cells #[.int .u8 k1, .int .u8 c1, .bool s1, v1] 53)) k2 c2 s2 v2
  rw [World.size_alloc] at hX2
  exact ⟨(BoxM.new w0 k1 c1 s1 v1).kept hB2 (Nat.le_refl _), hX2, ⟨0, Shows.nil_ _ _⟩, ⟨0, Shows.nil_ _ _⟩, hB1.trans (hB2.mono hB1.size)⟩
theorem TwoM.step (h : TwoM w0 k1 c1 s1 v1 k2 c2 s2 v2 x E1 y E2 w) (hb : Below w.heap.size w w') : TwoM w0 k1 c1 s1 v1 k2 c2 s2 v2 x E1 y E2 w' :=
  ⟨h.a.kept hb (Nat.le_refl _), h.b.kept hb (Nat.le_refl _), shows_belowM h.s1 hb, shows_belowM h.s2 hb, h.bel.trans (hb.mono h.bel.size)⟩
theorem TwoM.drw (h : TwoM w0 k1 c1 s1 v1 k2 c2 s2 v2 x E1 y E2 w) : TwoM w0 k1 c1 s1 v1 k2 c2 s2 v2 x E1 y E2 w.drew := h.step (below_drew1 (Below.refl _ _))
theorem TwoM.cells (h : TwoM w0 k1 c1 s1 v1 k2 c2 s2 v2 x E1 y E2 w) : (w.cell? ⟨w0.heap.size, 0, none⟩ = some (.int .u8 k1) ∧ w.cell? ⟨w0.heap.size, 1, none⟩ = some (.int .u8 c1) ∧ w.cell? ⟨w0.heap.size, 2, none⟩ = some (.bool s1) ∧ w.cell? ⟨w0.heap.size, 3, none⟩ = some v1) ∧
    (w.cell? ⟨w0.heap.size + 1, 0, none⟩ = some (.int .u8 k2) ∧ w.cell? ⟨w0.heap.size + 1, 1, none⟩ = some (.int .u8 c2) ∧ w.cell? ⟨w0.heap.size + 1, 2, none⟩ = some (.bool s2) ∧ w.cell? ⟨w0.heap.size + 1, 3, none⟩ = some v2) ∧
    (convert 57 9 x).run Try.prog w = .ok (.string (str8 E1)) w ∧ (convert 57 9 y).run Try.prog w = .ok (.string (str8 E2)) w := by
  obtain ⟨g1, h1⟩ := h.s1
  obtain ⟨g2, h2⟩ := h.s2
  exact ⟨⟨h.a.c0, h.a.c1, h.a.c2, h.a.c3⟩, ⟨h.b.c0, h.b.c1, h.b.c2, h.b.c3⟩, conv_at h1, conv_at h2⟩
end

open Classical in
noncomputable def errPM (m : MethP) : Nat := if validM m then 0 else 80
open Classical in
noncomputable def outPM (m : MethP) : List UInt8 := if validM m then m_putM m else []
theorem mput_any (cl co : Nat) (sy : Bool) (l : List ArgP) (A : Option Addr) (c : Nat) (w : World) (h : ListA w l A c) (hc : ∀ a ∈ l, cntT a.v ≤ 1000000) :
    Calls Try.prog 22 #[.agg #[.int .u8 cl, .int .u8 co, .bool sy, .slice A l.length c]] w fun e w' => ∃ v, e = .returned (.tuple #[v, .int .i64 (errPM ⟨cl, co, sy, l⟩)]) ∧ (∃ g, Shows w' g v (outPM ⟨cl, co, sy, l⟩)) ∧ Below w.heap.size w w' := by
  unfold errPM outPM
  by_cases hv : validM ⟨cl, co, sy, l⟩
  · rw [if_pos hv, if_pos hv]
    refine (mput_ok cl co sy l A c w h hc hv).mono ?_
    rintro e w' ⟨v, rfl, ho, hb⟩
    obtain ⟨g, _, hs⟩ := ho.shows
    exact ⟨v, rfl, ⟨g, hs⟩, hb⟩
  · rw [if_neg hv, if_neg hv]
    refine (mput_no cl co sy l A c w h hc hv).mono ?_
    rintro e w' ⟨rfl, hb⟩
    exact ⟨_, rfl, ⟨0, Shows.nil_ _ _⟩, hb⟩
theorem ListA.ok {w : World} {l : List ArgP} {A : Option Addr} {c : Nat} (h : ListA w l A c) : ∀ a ∈ l, okA a := by
  intro a ha
  obtain ⟨j, hj, rfl⟩ := List.getElem_of_mem ha
  obtain ⟨_, _, _, _, _, _, _, _, _, _, _, _, hs, _⟩ := h.at_ j hj
  exact ⟨hs.sz.n, hs.sz.f, hs.sz.u⟩
theorem mput_same {a b : MethP} (oa : okM a) (ob : okM b) (h1 : errPM a = 0) (h2 : errPM b = 0) : ((outPM a == outPM b) == sameM a b) = true := by
  unfold errPM at h1 h2
  unfold outPM
  have hva : validM a := by
    by_cases hv : validM a
    · exact hv
    · rw [if_neg hv] at h1; cases h1
  have hvb : validM b := by
    by_cases hv : validM b
    · exact hv
    · rw [if_neg hv] at h2; cases h2
  rw [if_pos hva, if_pos hvb]
  by_cases he : a = b
  · subst he
    rw [(sameM_iff a a).2 rfl]
    simp
  · have h3 : sameM a b = false := by
      cases hs : sameM a b with
      | false => rfl
      | true => exact absurd ((sameM_iff a b).1 hs) he
    have h4 : (m_putM a == m_putM b) = false := beq_eq_false_iff_ne.2 (fun e => he (put_inj hva hvb oa ob e))
    rw [h3, h4]
    rfl

end Go.Proofs.Ytnafibnhmhbfiab
