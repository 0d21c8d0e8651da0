/-
  The contracts of slices.EqualFunc over arguments and of method.Same; the document's Small of methods.
  Conditions: none but sizes.
-/
import Derived.Test.YtnafibnhmhbfiabMeCZ
import Derived.Test.YtnafibnhmhbfiabMeJZ
import Derived.Test.YtnafibnhmhbfiabValPZ
namespace Go.Proofs.Ytnafibnhmhbfiab
open Go.RowKit
set_option linter.unusedVariables false
set_option linter.unusedSimpArgs false

def sameArgs (l m : List ArgP) : Bool := decide (l.length = m.length) && (List.range l.length).all (fun j => match l[j]?, m[j]? with | some a, some b => sameA a b | _, _ => false)
theorem sameArgs_iff (l m : List ArgP) : sameArgs l m = true ↔ l = m := by
  unfold sameArgs
  rw [Bool.and_eq_true, decide_eq_true_eq, List.all_eq_true]
  constructor
  · rintro ⟨h1, h2⟩
    refine List.ext_getElem h1 fun i hi hi' => ?_
    have := h2 i (List.mem_range.2 hi)
    rw [List.getElem?_eq_getElem hi, List.getElem?_eq_getElem hi'] at this
    exact (sameA_iff _ _).1 this
  · rintro rfl
    refine ⟨rfl, fun i hi => ?_⟩
    rw [List.mem_range] at hi
    rw [List.getElem?_eq_getElem hi]
    exact (sameA_iff _ _).2 rfl
theorem sameArgs_no {l m : List ArgP} (j : Nat) (hl : j < l.length) (hm : j < m.length) (h : sameA l[j] m[j] = false) : sameArgs l m = false := by
  cases hs : sameArgs l m with
  | false => rfl
  | true =>
    have := (sameArgs_iff l m).1 hs
    subst this
    rw [(sameA_iff _ _).2 rfl] at h
    cases h
theorem take_eq_snoc {l m : List ArgP} {j : Nat} (hl : j < l.length) (hm : j < m.length) (h : l.take j = m.take j) (hs : sameA l[j] m[j] = true) : l.take (j + 1) = m.take (j + 1) := by
  rw [List.take_succ_eq_append_getElem hl, List.take_succ_eq_append_getElem hm, h, (sameA_iff _ _).1 hs]

set_option maxRecDepth 100000 in
set_option maxHeartbeats 8000000 in
theorem equalFunc_any (l m : List ArgP) (A : Option Addr) (c : Nat) (A' : Option Addr) (c' : Nat) (w : World) (hl : ListA w l A c) (hm : ListA w m A' c') (hc : ∀ a ∈ l, cntT a.v ≤ 1000000) :
    Calls Try.prog 35 #[.slice A l.length c, .slice A' m.length c', .func (.func 36) #[] #[]] w fun e w' => e = .returned (.bool (sameArgs l m)) ∧ Below w.heap.size w w' := by
  by_cases hlen : l.length = m.length
  · have hlenB : ((l.length : Int) != (m.length : Int)) = false := by simp; omega
    obtain ⟨R, hR⟩ : ∃ R, R = sameArgs l m := ⟨_, rfl⟩
    rw [← hR]
    have HR := Lib.hid hR
    have HL := Lib.hid (fun w' (hb : Below w.heap.size w w') => hl.kept hb (Nat.le_refl _))
    have HM := Lib.hid (fun w' (hb : Below w.heap.size w w') => hm.kept hb (Nat.le_refl _))
    have HC := Lib.hid hc
    have HLEN := Lib.hid hlen
    clear hR hl hm hc
    go_enter Try.func35, Try.ntmps35
    go_wp2_with fail
    clear hlen hlenB
    go_loopw [7, 8, 9, 17] (fun a7 a8 a9 i wr => ∃ j : Nat, j ≤ l.length ∧ i = .int .i64 j ∧ Below w.heap.size w wr ∧ Hid (l.take j = m.take j)) (fun _ _ _ i _ => l.length - (intOf i).toNat)
    case atStart => exact ⟨0, by omega, rfl, Below.refl _ _, Lib.hid rfl⟩
    case round =>
      obtain ⟨j, hj, rfl, hb, hT⟩ := hrel
      rename World => wj
      have hL40 := (HL.out wj hb).lm
      by_cases hlt : j < l.length
      · have hltm : j < m.length := by have := HLEN.out; omega
        have hjl : (j : Int) < (l.length : Int) := by omega
        have hjm : (j : Int) < (m.length : Int) := by omega
        obtain ⟨d, o, B, e, dq, v0, v1, v2, v3, v4, rfl, hd, hsh, ⟨e0, e1, e2⟩, ⟨e3, e4, e5⟩, e6, e7, e8, e9, e10, e11⟩ := (HL.out wj hb).at_ j hlt
        obtain ⟨d', o', B', e', dq', u0, u1, u2, u3, u4, rfl, hd', hsh', ⟨g0, g1, g2⟩, ⟨g3, g4, g5⟩, g6, g7, g8, g9, g10, g11⟩ := (HM.out wj hb).at_ j hltm
        have HNO := Lib.hid (fun h => sameArgs_no j hlt hltm h)
        have HYES := Lib.hid (fun h => take_eq_snoc hlt hltm hT.out h)
        have HS := Lib.hid (fun w' (hb : Below wj.heap.size wj w') => sameArg_any l[j] m[j] B e dq v0 v1 v2 v3 v4 B' e' dq' u0 u1 u2 u3 u4 w' (hsh.kept hb (Nat.le_refl _)) (hsh'.kept hb (Nat.le_refl _)) (HC.out _ (List.getElem_mem hlt)))
        obtain ⟨xk, xn, xs, xa, xb, xc, xd, xe, xf, hxx⟩ := hsh.v.cells5
        simp only [List.cons.injEq, and_true] at hxx
        obtain ⟨rfl, rfl, rfl, rfl, rfl⟩ := hxx
        obtain ⟨yk, yn, ys, ya, yb, yc, yd, ye, yf, hxx⟩ := hsh'.v.cells5
        simp only [List.cons.injEq, and_true] at hxx
        obtain ⟨rfl, rfl, rfl, rfl, rfl⟩ := hxx
        clear hsh hsh' hd hT
        generalize l[j] = aj at *
        generalize m[j] = bj at *
        obtain ⟨ai, an, az, af, ag, ah, aq, av⟩ := aj
        obtain ⟨bi, bn, bz, bf, bg, bh, bq, bv⟩ := bj
        generalize sameA ⟨ai, an, az, af, ag, ah, aq, av⟩ ⟨bi, bn, bz, bf, bg, bh, bq, bv⟩ = S at *
        unfold argV at HS
        simp only [] at *
        have hbA := hb.alloc hb.size (Obj.cells #[.bool ai, .int .u64 an, .string az, .int .u32 af, .string ag, .string ah, .slice B aq.length e, .int .u8 xk, .int .u64 xn, .string xs, .slice xa xb xc, .slice xd xe xf] 92)
        have hbj := below_boxV wj (Obj.cells #[.bool ai, .int .u64 an, .string az, .int .u32 af, .string ag, .string ah, .slice B aq.length e, .int .u8 xk, .int .u64 xn, .string xs, .slice xa xb xc, .slice xd xe xf] 92)
        have hbj2 := hbj.trans ((below_boxV _ (Obj.cells #[.bool bi, .int .u64 bn, .string bz, .int .u32 bf, .string bg, .string bh, .slice B' bq.length e', .int .u8 yk, .int .u64 yn, .string ys, .slice ya yb yc, .slice yd ye yf] 92)).mono hbj.size)
        have HS2 := Lib.hid (HS.out _ hbj2)
        have HB2 := Lib.hid (hb.trans (hbj2.mono hb.size))
        clear hbA hbj hbj2
        go_wp2_with fail
        refine HS2.out.mono ?_
        rintro e wk ⟨rfl, hbk⟩
        have hbw := HB2.out.trans (hbk.mono HB2.out.size)
        clear e0 e1 e2 e3 e4 e5 e6 e7 e8 e9 e10 e11 g0 g1 g2 g3 g4 g5 g6 g7 g8 g9 g10 g11
        cases S with
        | true =>
          go_wp2_with fail
          go_roundw
          case rel => exact ⟨j + 1, by omega, by go_num, hbw, Lib.hid (HYES.out trivial)⟩
          case measure => simp [intOf]; omega
        | false =>
          obtain rfl : R = false := by rw [HR.out]; exact HNO.out rfl
          go_wp2_with fail
          go_ret
          exact ⟨rfl, hbw⟩
      · have hjl : ¬ (j : Int) < (l.length : Int) := by omega
        have hjm : ¬ (j : Int) < (m.length : Int) := by have := HLEN.out; omega
        obtain rfl : R = true := by
          have h := hT.out
          rw [List.take_of_length_le (by omega), List.take_of_length_le (by have := HLEN.out; omega)] at h
          rw [HR.out]
          exact (sameArgs_iff _ _).2 h
        go_wp2_with fail
        go_ret
        exact ⟨rfl, hb⟩
  · have hlenB : ((l.length : Int) != (m.length : Int)) = true := by simp; omega
    have hf : sameArgs l m = false := by
      cases hs : sameArgs l m with
      | false => rfl
      | true => exact absurd (congrArg List.length ((sameArgs_iff l m).1 hs)) hlen
    rw [hf]
    clear hl hm hf
    go_enter Try.func35, Try.ntmps35
    go_wp2_with fail
    go_ret
    exact ⟨rfl, Below.refl _ _⟩

def sameM (a b : MethP) : Bool := decide (a.cl = b.cl ∧ a.co = b.co ∧ a.sy = b.sy) && sameArgs a.args b.args
theorem sameM_iff (a b : MethP) : sameM a b = true ↔ a = b := by
  unfold sameM
  rw [Bool.and_eq_true, decide_eq_true_eq, sameArgs_iff]
  cases a; cases b
  simp only [MethP.mk.injEq]
  constructor
  · rintro ⟨⟨h1, h2, h3⟩, h4⟩
    exact ⟨h1, h2, h3, h4⟩
  · rintro ⟨h1, h2, h3, h4⟩
    exact ⟨⟨h1, h2, h3⟩, h4⟩

set_option maxRecDepth 100000 in
set_option maxHeartbeats 8000000 in
theorem msame_any (k1 c1 : Nat) (s1 : Bool) (l : List ArgP) (A : Option Addr) (c : Nat) (k2 c2 : Nat) (s2 : Bool) (m : List ArgP) (A' : Option Addr) (c' : Nat) (w : World) (hl : ListA w l A c) (hm : ListA w m A' c') (hc : ∀ a ∈ l, cntT a.v ≤ 1000000) :
    Calls Try.prog 19 #[.agg #[.int .u8 k1, .int .u8 c1, .bool s1, .slice A l.length c], .agg #[.int .u8 k2, .int .u8 c2, .bool s2, .slice A' m.length c']] w fun e w' => e = .returned (.bool (sameM ⟨k1, c1, s1, l⟩ ⟨k2, c2, s2, m⟩)) ∧ Below w.heap.size w w' := by
  have hX1 := (BoxM.new w k1 c1 s1 (.slice A l.length c)).kept (below_box _ (Obj.cells #[.int .u8 k2, .int .u8 c2, .bool s2, .slice A' m.length c'] 53)) (Nat.le_refl _)
  have hX2 := BoxM.new (w.alloc (Obj.cells #[.int .u8 k1, .int .u8 c1, .bool s1, .slice A l.length c] 53)) k2 c2 s2 (.slice A' m.length c')
  rw [World.size_alloc] at hX2
  have hB1 := below_box w (Obj.cells #[.int .u8 k1, .int .u8 c1, .bool s1, .slice A l.length c] 53)
  have hB := hB1.trans ((below_box _ (Obj.cells #[.int .u8 k2, .int .u8 c2, .bool s2, .slice A' m.length c'] 53)).mono hB1.size)
  have HS := Lib.hid (equalFunc_any l m A c A' c' _ (hl.kept hB (Nat.le_refl _)) (hm.kept hB (Nat.le_refl _)) hc)
  have HB := Lib.hid hB
  have p0 := hX1.c0
  have p1 := hX1.c1
  have p2 := hX1.c2
  have p3 := hX1.c3
  have q0 := hX2.c0
  have q1 := hX2.c1
  have q2 := hX2.c2
  have q3 := hX2.c3
  have hE : sameM ⟨k1, c1, s1, l⟩ ⟨k2, c2, s2, m⟩ = (((k1 : Int) == (k2 : Int)) && ((c1 : Int) == (c2 : Int)) && (s1 == s2) && sameArgs l m) := by
    unfold sameM
    congr 1
    rw [Bool.eq_iff_iff]
    simp only [decide_eq_true_eq, Bool.and_eq_true, beq_iff_eq]
    constructor
    · rintro ⟨rfl, rfl, rfl⟩
      exact ⟨⟨rfl, rfl⟩, rfl⟩
    · rintro ⟨⟨h1, h2⟩, h3⟩
      exact ⟨by omega, by omega, h3⟩
  rw [hE]
  obtain ⟨e1, he1⟩ : ∃ e1, e1 = ((k1 : Int) == (k2 : Int)) := ⟨_, rfl⟩
  obtain ⟨e2, he2⟩ : ∃ e2, e2 = ((c1 : Int) == (c2 : Int)) := ⟨_, rfl⟩
  obtain ⟨e3, he3⟩ : ∃ e3, e3 = (s1 == s2) := ⟨_, rfl⟩
  rw [← he1, ← he2, ← he3]
  generalize sameArgs l m = E at *
  replace he1 := he1.symm
  replace he2 := he2.symm
  replace he3 := he3.symm
  clear hB hB1 hX1 hX2 hl hm hc hE
  go_enter Try.func19, Try.ntmps19
  cases e1 with
  | false =>
    go_wp2_with fail
    go_ret
    exact ⟨rfl, HB.out⟩
  | true =>
  cases e2 with
  | false =>
    go_wp2_with fail
    go_ret
    exact ⟨rfl, HB.out⟩
  | true =>
  cases e3 with
  | false =>
    go_wp2_with fail
    go_ret
    exact ⟨rfl, HB.out⟩
  | true =>
  go_wp2_with fail
  refine HS.out.mono ?_
  rintro e w3 ⟨rfl, hb3⟩
  go_wp2_with fail
  go_ret
  exact ⟨rfl, HB.out.trans (hb3.mono HB.out.size)⟩

/-- What the document calls small. -/
def SmallM (l : List ArgP) (w : World) (e : Ending) (w' : World) : Prop := ∃ r : Bool, e = .returned (.bool r) ∧ (r = true → l.length ≤ 8 ∧ ∀ a ∈ l, cntT a.v ≤ 400) ∧ Below w.heap.size w w'
theorem small_m {l : List ArgP} {w w' : World} {e : Ending} (r : Bool) (h1 : e = .returned (.bool r)) (h2 : r = true → l.length ≤ 8 ∧ ∀ a ∈ l, cntT a.v ≤ 400) (h3 : Below w.heap.size w w') : SmallM l w e w' := ⟨r, h1, h2, h3⟩

set_option maxRecDepth 100000 in
set_option maxHeartbeats 8000000 in
theorem msmall_any (cl co : Nat) (sy : Bool) (l : List ArgP) (A : Option Addr) (c : Nat) (w : World) (h : ListA w l A c) :
    Calls Try.prog 17 #[.agg #[.int .u8 cl, .int .u8 co, .bool sy, .slice A l.length c]] w (SmallM l w) := by
  have HL := Lib.hid (fun w' (hb : Below w.heap.size w w') => h.kept hb (Nat.le_refl _))
  have hX := BoxM.new w cl co sy (.slice A l.length c)
  have hB := below_box w (Obj.cells #[.int .u8 cl, .int .u8 co, .bool sy, .slice A l.length c] 53)
  have HX := Lib.hid (fun w' (hb : Below (w.heap.size + 1) (w.alloc (Obj.cells #[.int .u8 cl, .int .u8 co, .bool sy, .slice A l.length c] 53)) w') => (hX.kept hb (by simp)).c3)
  have HB := Lib.hid hB
  have x3 := hX.c3
  clear h hX hB
  by_cases hl : l.length ≤ 8
  · have t1 : decide ((8 : Int) < (l.length : Int)) = false := by simp; omega
    go_enter Try.func17, Try.ntmps17
    go_wp2_with fail
    clear x3
    go_loopw [3] (fun i wr => ∃ j : Nat, j ≤ l.length ∧ i = .int .i64 j ∧ Below (w.heap.size + 1) (w.alloc (Obj.cells #[.int .u8 cl, .int .u8 co, .bool sy, .slice A l.length c] 53)) wr ∧ Hid (∀ a ∈ l.take j, cntT a.v ≤ 400)) (fun i _ => l.length - (intOf i).toNat)
    case atStart => exact ⟨0, by omega, rfl, Below.refl _ _, Lib.hid (by simp)⟩
    case round =>
      obtain ⟨j, hj, rfl, hb, hT⟩ := hrel
      rename World => wj
      have x3 := HX.out wj hb
      have hbw : Below w.heap.size w wj := HB.out.trans (hb.mono (by omega))
      by_cases hlt : j < l.length
      · have hjl : (j : Int) < (l.length : Int) := by omega
        obtain ⟨d, o, B, e, dq, v0, v1, v2, v3, v4, rfl, hd, hsh, ⟨e0, e1, e2⟩, ⟨e3, e4, e5⟩, e6, e7, e8, e9, e10, e11⟩ := (HL.out wj hbw).at_ j hlt
        have HS := Lib.hid (small_any l[j].v _ wj hsh.v)
        have HTS := Lib.hid (fun (h : cntT l[j].v ≤ 400) => (show ∀ a ∈ l.take (j + 1), cntT a.v ≤ 400 by
          intro a ha
          rw [List.take_succ_eq_append_getElem hlt, List.mem_append] at ha
          rcases ha with ha | ha
          · exact hT.out a ha
          · rw [List.mem_singleton] at ha; rw [ha]; exact h))
        obtain ⟨xk, xn, xs, xa, xb, xc, xd, xe, xf, hxx⟩ := hsh.v.cells5
        simp only [List.cons.injEq, and_true] at hxx
        obtain ⟨rfl, rfl, rfl, rfl, rfl⟩ := hxx
        have HB2 := Lib.hid hb
        have HBW := Lib.hid hbw
        clear hsh hT hb hbw
        generalize l[j] = aj at *
        obtain ⟨ai, an, az, af, ag, ah, aq, av⟩ := aj
        simp only [] at *
        by_cases hq : aq.length ≤ 1100
        · have t2 : decide ((1100 : Int) < (aq.length : Int)) = false := by simp; omega
          by_cases hz : az.size ≤ 70000
          · have t3 : decide ((70000 : Int) < (az.size : Int)) = false := by simp; omega
            go_wp2_with fail
            refine HS.out.mono ?_
            rintro e wk ⟨r, rfl, hr, hbk⟩
            have hbk2 := HB2.out.trans (hbk.mono (by have := HB2.out.size; simp at this; omega))
            have hbk3 := HBW.out.trans (hbk.mono HBW.out.size)
            clear e0 e1 e2 e3 e4 e5 e6 e7 e8 e9 e10 e11
            cases r with
            | true =>
              go_wp2_with fail
              go_roundw
              case rel => exact ⟨j + 1, by omega, by go_num, hbk2, Lib.hid (HTS.out (hr trivial).1)⟩
              case measure => simp [intOf]; omega
            | false =>
              go_wp2_with fail
              go_ret
              exact small_m false rfl (fun h => by simp at h) hbk3
          · have t3 : decide ((70000 : Int) < (az.size : Int)) = true := by simp; omega
            go_wp2_with fail
            go_ret
            exact small_m false rfl (fun h => by simp at h) HBW.out
        · have t2 : decide ((1100 : Int) < (aq.length : Int)) = true := by simp; omega
          go_wp2_with fail
          go_ret
          exact small_m false rfl (fun h => by simp at h) HBW.out
      · have hjl : ¬ (j : Int) < (l.length : Int) := by omega
        have hall : ∀ a ∈ l, cntT a.v ≤ 400 := by
          have h := hT.out
          rwa [List.take_of_length_le (by omega)] at h
        have HALL := Lib.hid hall
        clear hall
        go_wp2_with fail
        go_ret
        exact small_m true rfl (fun _ => ⟨hl, HALL.out⟩) hbw
  · have t1 : decide ((8 : Int) < (l.length : Int)) = true := by simp; omega
    go_enter Try.func17, Try.ntmps17
    go_wp2_with fail
    go_ret
    exact small_m false rfl (fun h => by simp at h) HB.out

end Go.Proofs.Ytnafibnhmhbfiab
