/-
  Texts, together: MeSm, MeSn.
  Conditions: none but sizes.
-/
import Derived.Test.YtpbdnfonflmncaaGreatMeCZ
import Derived.Test.YtpbdnfonflmncaaGreatMeJZ
import Derived.Test.YtpbdnfonflmncaaGreatValPZ
/-
  The contracts of slices.EqualFunc over arguments and of method.Same; the document's Small of methods.
  Conditions: none but sizes.
-/
namespace Go.Proofs.YtpbdnfonflmncaaGreat
open Go.RowKit
set_option linter.unusedVariables false
set_option linter.unusedSimpArgs false

def sameArgs (l m : List ArgP) : Bool := decide (l.length = m.length) && (List.range l.length).all (fun j => match l[j]?, m[j]? with | some a, some b => sameA a b | _, _ => false)
theorem sameArgs_iff (l m : List ArgP) : sameArgs l m = true ↔ l = m := by
  unfold sameArgs
  rw [Bool.and_eq_true, decide_eq_true_eq, List.all_eq_true]
  constructor
  · rintro ⟨h1, h2⟩
    refine List.ext_getElem h1 fun i hi hi' => ?_
    have := h2 i (List.mem_range.2 hi)
    rw [List.getElem?_eq_getElem hi, List.getElem?_eq_getElem hi'] at this
    exact (sameA_iff _ _).1 this
  · rintro rfl
    refine ⟨rfl, fun i hi => ?_⟩
    rw [List.mem_range] at hi
    rw [List.getElem?_eq_getElem hi]
    exact (sameA_iff _ _).2 rfl
theorem sameArgs_no {l m : List ArgP} (j : Nat) (hl : j < l.length) (hm : j < m.length) (h : sameA l[j] m[j] = false) : sameArgs l m = false := by
  cases hs : sameArgs l m with
  | false => rfl
  | true =>
    have := (sameArgs_iff l m).1 hs
    subst this
    rw [(sameA_iff _ _).2 rfl] at h
    cases h
theorem take_eq_snoc {l m : List ArgP} {j : Nat} (hl : j < l.length) (hm : j < m.length) (h : l.take j = m.take j) (hs : sameA l[j] m[j] = true) : l.take (j + 1) = m.take (j + 1) := by
  rw [List.take_succ_eq_append_getElem hl, List.take_succ_eq_append_getElem hm, h, (sameA_iff _ _).1 hs]

def sameM (a b : MethP) : Bool := decide (a.cl = b.cl ∧ a.co = b.co ∧ a.sy = b.sy) && sameArgs a.args b.args
theorem sameM_iff (a b : MethP) : sameM a b = true ↔ a = b := by
  unfold sameM
  rw [Bool.and_eq_true, decide_eq_true_eq, sameArgs_iff]
  cases a; cases b
  simp only [MethP.mk.injEq]
  constructor
  · rintro ⟨⟨h1, h2, h3⟩, h4⟩
    exact ⟨h1, h2, h3, h4⟩
  · rintro ⟨h1, h2, h3, h4⟩
    exact ⟨⟨h1, h2, h3⟩, h4⟩

/-- What the document calls small. -/
def SmallM (l : List ArgP) (w : World) (e : Ending) (w' : World) : Prop := ∃ r : Bool, e = .returned (.bool r) ∧ (r = true → l.length ≤ 8 ∧ ∀ a ∈ l, cntT a.v ≤ 400) ∧ Below w.heap.size w w'
theorem small_m {l : List ArgP} {w w' : World} {e : Ending} (r : Bool) (h1 : e = .returned (.bool r)) (h2 : r = true → l.length ≤ 8 ∧ ∀ a ∈ l, cntT a.v ≤ 400) (h3 : Below w.heap.size w w') : SmallM l w e w' := ⟨r, h1, h2, h3⟩

set_option maxRecDepth 100000 in
set_option maxHeartbeats 8000000 in
theorem msmall_any (cl co : Nat) (sy : Bool) (l : List ArgP) (A : Option Addr) (c : Nat) (w : World) (h : ListA w l A c) :
    Calls Tryz.prog 5 #[.agg #[.int .u8 cl, .int .u8 co, .bool sy, .slice A l.length c]] w (SmallM l w) := by
  have HL := Lib.hid (fun w' (hb : Below w.heap.size w w') => h.kept hb (Nat.le_refl _))
  have hX := BoxM.new w cl co sy (.slice A l.length c)
  have hB := below_box w (Obj.cells #[.int .u8 cl, .int .u8 co, .bool sy, .slice A l.length c] 24)
  have HX := Lib.hid (fun w' (hb : Below (w.heap.size + 1) (w.alloc (Obj.cells #[.int .u8 cl, .int .u8 co, .bool sy, .slice A l.length c] 24)) w') => (hX.kept hb (by simp)).c3)
  have HB := Lib.hid hB
  have x3 := hX.c3
  clear h hX hB
  by_cases hl : l.length ≤ 8
  · have t1 : decide ((8 : Int) < (l.length : Int)) = false := by simp; omega
    go_enter Tryz.func5, Tryz.ntmps5
    go_wp2_with fail
    clear x3
    go_loopw [3] (fun i wr => ∃ j : Nat, j ≤ l.length ∧ i = .int .i64 j ∧ Below (w.heap.size + 1) (w.alloc (Obj.cells #[.int .u8 cl, .int .u8 co, .bool sy, .slice A l.length c] 24)) wr ∧ Hid (∀ a ∈ l.take j, cntT a.v ≤ 400)) (fun i _ => l.length - (intOf i).toNat)
    case atStart => exact ⟨0, by omega, rfl, Below.refl _ _, Lib.hid (by simp)⟩
    case round =>
      obtain ⟨j, hj, rfl, hb, hT⟩ := hrel
      rename World => wj
      have x3 := HX.out wj hb
      have hbw : Below w.heap.size w wj := HB.out.trans (hb.mono (by omega))
      by_cases hlt : j < l.length
      · have hjl : (j : Int) < (l.length : Int) := by omega
        obtain ⟨d, o, B, e, dq, v0, v1, v2, v3, v4, rfl, hd, hsh, ⟨e0, e1, e2⟩, ⟨e3, e4, e5⟩, e6, e7, e8, e9, e10, e11⟩ := (HL.out wj hbw).at_ j hlt
        have HS := Lib.hid (small_any l[j].v _ wj hsh.v)
        have HTS := Lib.hid (fun (h : cntT l[j].v ≤ 400) => (show ∀ a ∈ l.take (j + 1), cntT a.v ≤ 400 by
          intro a ha
          rw [List.take_succ_eq_append_getElem hlt, List.mem_append] at ha
          rcases ha with ha | ha
          · exact hT.out a ha
          · rw [List.mem_singleton] at ha; rw [ha]; exact h))
        obtain ⟨xk, xn, xs, xa, xb, xc, xd, xe, xf, hxx⟩ := hsh.v.cells5
        simp only [List.cons.injEq, and_true] at hxx
        obtain ⟨rfl, rfl, rfl, rfl, rfl⟩ := hxx
        have HB2 := Lib.hid hb
        have HBW := Lib.hid hbw
        clear hsh hT hb hbw
        generalize l[j] = aj at *
        obtain ⟨ai, an, az, af, ag, ah, aq, av⟩ := aj
        simp only [] at *
        by_cases hq : aq.length ≤ 1100
        · have t2 : decide ((1100 : Int) < (aq.length : Int)) = false := by simp; omega
          by_cases hz : az.size ≤ 70000
          · have t3 : decide ((70000 : Int) < (az.size : Int)) = false := by simp; omega
            go_wp2_with fail
            refine HS.out.mono ?_
            rintro e wk ⟨r, rfl, hr, hbk⟩
            have hbk2 := HB2.out.trans (hbk.mono (by have := HB2.out.size; simp at this; omega))
            have hbk3 := HBW.out.trans (hbk.mono HBW.out.size)
            clear e0 e1 e2 e3 e4 e5 e6 e7 e8 e9 e10 e11
            cases r with
            | true =>
              go_wp2_with fail
              go_roundw
              case rel => exact ⟨j + 1, by omega, by go_num, hbk2, Lib.hid (HTS.out (hr trivial).1)⟩
              case measure => simp [intOf]; omega
            | false =>
              go_wp2_with fail
              go_ret
              exact small_m false rfl (fun h => by simp at h) hbk3
          · have t3 : decide ((70000 : Int) < (az.size : Int)) = true := by simp; omega
            go_wp2_with fail
            go_ret
            exact small_m false rfl (fun h => by simp at h) HBW.out
        · have t2 : decide ((1100 : Int) < (aq.length : Int)) = true := by simp; omega
          go_wp2_with fail
          go_ret
          exact small_m false rfl (fun h => by simp at h) HBW.out
      · have hjl : ¬ (j : Int) < (l.length : Int) := by omega
        have hall : ∀ a ∈ l, cntT a.v ≤ 400 := by
          have h := hT.out
          rwa [List.take_of_length_le (by omega)] at h
        have HALL := Lib.hid hall
        clear hall
        go_wp2_with fail
        go_ret
        exact small_m true rfl (fun _ => ⟨hl, HALL.out⟩) hbw
  · have t1 : decide ((8 : Int) < (l.length : Int)) = true := by simp; omega
    go_enter Tryz.func5, Tryz.ntmps5
    go_wp2_with fail
    go_ret
    exact small_m false rfl (fun h => by simp at h) HB.out

end Go.Proofs.YtpbdnfonflmncaaGreat
/-
  The document's Small of methods, with what it says of spans.
  Conditions: none but sizes.
-/
namespace Go.Proofs.YtpbdnfonflmncaaGreat
open Go.RowKit
set_option linter.unusedVariables false
set_option linter.unusedSimpArgs false

/-- What the document calls small. -/
def SmallN (l : List ArgP) (w : World) (e : Ending) (w' : World) : Prop := ∃ r : Bool, e = .returned (.bool r) ∧ (r = true → l.length ≤ 8 ∧ ∀ a ∈ l, cntT a.v ≤ 400 ∧ a.q.length ≤ 1100) ∧ Below w.heap.size w w'
theorem small_n {l : List ArgP} {w w' : World} {e : Ending} (r : Bool) (h1 : e = .returned (.bool r)) (h2 : r = true → l.length ≤ 8 ∧ ∀ a ∈ l, cntT a.v ≤ 400 ∧ a.q.length ≤ 1100) (h3 : Below w.heap.size w w') : SmallN l w e w' := ⟨r, h1, h2, h3⟩

set_option maxRecDepth 100000 in
set_option maxHeartbeats 8000000 in
theorem msmalln_any (cl co : Nat) (sy : Bool) (l : List ArgP) (A : Option Addr) (c : Nat) (w : World) (h : ListA w l A c) :
    Calls Tryz.prog 5 #[.agg #[.int .u8 cl, .int .u8 co, .bool sy, .slice A l.length c]] w (SmallN l w) := by
  have HL := Lib.hid (fun w' (hb : Below w.heap.size w w') => h.kept hb (Nat.le_refl _))
  have hX := BoxM.new w cl co sy (.slice A l.length c)
  have hB := below_box w (Obj.cells #[.int .u8 cl, .int .u8 co, .bool sy, .slice A l.length c] 24)
  have HX := Lib.hid (fun w' (hb : Below (w.heap.size + 1) (w.alloc (Obj.cells #[.int .u8 cl, .int .u8 co, .bool sy, .slice A l.length c] 24)) w') => (hX.kept hb (by simp)).c3)
  have HB := Lib.hid hB
  have x3 := hX.c3
  clear h hX hB
  by_cases hl : l.length ≤ 8
  · have t1 : decide ((8 : Int) < (l.length : Int)) = false := by simp; omega
    go_enter Tryz.func5, Tryz.ntmps5
    go_wp2_with fail
    clear x3
    go_loopw [3] (fun i wr => ∃ j : Nat, j ≤ l.length ∧ i = .int .i64 j ∧ Below (w.heap.size + 1) (w.alloc (Obj.cells #[.int .u8 cl, .int .u8 co, .bool sy, .slice A l.length c] 24)) wr ∧ Hid (∀ a ∈ l.take j, cntT a.v ≤ 400 ∧ a.q.length ≤ 1100)) (fun i _ => l.length - (intOf i).toNat)
    case atStart => exact ⟨0, by omega, rfl, Below.refl _ _, Lib.hid (by simp)⟩
    case round =>
      obtain ⟨j, hj, rfl, hb, hT⟩ := hrel
      rename World => wj
      have x3 := HX.out wj hb
      have hbw : Below w.heap.size w wj := HB.out.trans (hb.mono (by omega))
      by_cases hlt : j < l.length
      · have hjl : (j : Int) < (l.length : Int) := by omega
        obtain ⟨d, o, B, e, dq, v0, v1, v2, v3, v4, rfl, hd, hsh, ⟨e0, e1, e2⟩, ⟨e3, e4, e5⟩, e6, e7, e8, e9, e10, e11⟩ := (HL.out wj hbw).at_ j hlt
        have HS := Lib.hid (small_any l[j].v _ wj hsh.v)
        have HTS := Lib.hid (fun (h : cntT l[j].v ≤ 400 ∧ l[j].q.length ≤ 1100) => (show ∀ a ∈ l.take (j + 1), cntT a.v ≤ 400 ∧ a.q.length ≤ 1100 by
          intro a ha
          rw [List.take_succ_eq_append_getElem hlt, List.mem_append] at ha
          rcases ha with ha | ha
          · exact hT.out a ha
          · rw [List.mem_singleton] at ha; rw [ha]; exact h))
        obtain ⟨xk, xn, xs, xa, xb, xc, xd, xe, xf, hxx⟩ := hsh.v.cells5
        simp only [List.cons.injEq, and_true] at hxx
        obtain ⟨rfl, rfl, rfl, rfl, rfl⟩ := hxx
        have HB2 := Lib.hid hb
        have HBW := Lib.hid hbw
        clear hsh hT hb hbw
        generalize l[j] = aj at *
        obtain ⟨ai, an, az, af, ag, ah, aq, av⟩ := aj
        simp only [] at *
        by_cases hq : aq.length ≤ 1100
        · have t2 : decide ((1100 : Int) < (aq.length : Int)) = false := by simp; omega
          have HQ11 := Lib.hid hq
          by_cases hz : az.size ≤ 70000
          · have t3 : decide ((70000 : Int) < (az.size : Int)) = false := by simp; omega
            go_wp2_with fail
            refine HS.out.mono ?_
            rintro e wk ⟨r, rfl, hr, hbk⟩
            have hbk2 := HB2.out.trans (hbk.mono (by have := HB2.out.size; simp at this; omega))
            have hbk3 := HBW.out.trans (hbk.mono HBW.out.size)
            clear e0 e1 e2 e3 e4 e5 e6 e7 e8 e9 e10 e11
            cases r with
            | true =>
              go_wp2_with fail
              go_roundw
              case rel => exact ⟨j + 1, by omega, by go_num, hbk2, Lib.hid (HTS.out ⟨(hr trivial).1, HQ11.out⟩)⟩
              case measure => simp [intOf]; omega
            | false =>
              go_wp2_with fail
              go_ret
              exact small_n false rfl (fun h => by simp at h) hbk3
          · have t3 : decide ((70000 : Int) < (az.size : Int)) = true := by simp; omega
            go_wp2_with fail
            go_ret
            exact small_n false rfl (fun h => by simp at h) HBW.out
        · have t2 : decide ((1100 : Int) < (aq.length : Int)) = true := by simp; omega
          go_wp2_with fail
          go_ret
          exact small_n false rfl (fun h => by simp at h) HBW.out
      · have hjl : ¬ (j : Int) < (l.length : Int) := by omega
        have hall : ∀ a ∈ l, cntT a.v ≤ 400 ∧ a.q.length ≤ 1100 := by
          have h := hT.out
          rwa [List.take_of_length_le (by omega)] at h
        have HALL := Lib.hid hall
        clear hall
        go_wp2_with fail
        go_ret
        exact small_n true rfl (fun _ => ⟨hl, HALL.out⟩) hbw
  · have t1 : decide ((8 : Int) < (l.length : Int)) = true := by simp; omega
    go_enter Tryz.func5, Tryz.ntmps5
    go_wp2_with fail
    go_ret
    exact small_n false rfl (fun h => by simp at h) HB.out

end Go.Proofs.YtpbdnfonflmncaaGreat
