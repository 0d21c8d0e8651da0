/-
  Texts, together: MeJ, MeK.
  Conditions: none but sizes.
-/
import Derived.Test.YtpbdnfonflmncaaGreatMeGZ
import Derived.Test.YtpbdnfonflmncaaGreatMeAZ
import Derived.Laws.BitsAllLaws
set_option linter.unusedVariables false
set_option linter.unusedSimpArgs false
namespace Go.Proofs.YtpbdnfonflmncaaGreat
open Go.RowKit
def ArgAt (w : World) (d p : Nat) (a : ArgP) (qv v0 v1 v2 v3 v4 : Value) : Prop :=
  (w.cell? ⟨d, p, none⟩ = some (.bool a.is) ∧ w.cell? ⟨d, p + 1, none⟩ = some (.int .u64 a.n) ∧ w.cell? ⟨d, p + 2, none⟩ = some (.string a.s)) ∧
    (w.cell? ⟨d, p + 3, none⟩ = some (.int .u32 a.f) ∧ w.cell? ⟨d, p + 4, none⟩ = some (.string a.g) ∧ w.cell? ⟨d, p + 5, none⟩ = some (.string a.h)) ∧ w.cell? ⟨d, p + 6, none⟩ = some qv ∧
    (w.cell? ⟨d, p + 7, none⟩ = some v0 ∧ w.cell? ⟨d, p + 8, none⟩ = some v1 ∧ w.cell? ⟨d, p + 9, none⟩ = some v2 ∧ w.cell? ⟨d, p + 10, none⟩ = some v3 ∧ w.cell? ⟨d, p + 11, none⟩ = some v4)
theorem ArgAt.keep {w w' : World} {d p : Nat} {a : ArgP} {qv v0 v1 v2 v3 v4 : Value} (h : ArgAt w d p a qv v0 v1 v2 v3 v4) (hc : ∀ k, w'.cell? ⟨d, k, none⟩ = w.cell? ⟨d, k, none⟩) : ArgAt w' d p a qv v0 v1 v2 v3 v4 := by
 unfold ArgAt at h ⊢
 simp only [hc]
 exact h
structure ListA (w : World) (l : List ArgP) (A : Option Addr) (c : Nat) : Prop where
  lm : l.length ≤ 1099511627776
  lc : l.length ≤ c
  cm : c ≤ maxLen
  at_ : ∀ j (hj : j < l.length), ∃ (d o : Nat) (B : Option Addr) (e dq : Nat) (v0 v1 v2 v3 v4 : Value), A = some ⟨d, o, none⟩ ∧ d < w.heap.size ∧ ShowsA w l[j] B e dq v0 v1 v2 v3 v4 ∧ ArgAt w d (o + j * 12) l[j] (.slice B l[j].q.length e) v0 v1 v2 v3 v4
theorem ListA.kept {w w' : World} {B : Nat} {l : List ArgP} {A : Option Addr} {c : Nat} (h : ListA w l A c) (hb : Below B w w') (hB : w.heap.size ≤ B) : ListA w' l A c :=
 ⟨h.lm, h.lc, h.cm, fun j hj => by
  obtain ⟨d, o, C, e, dq, v0, v1, v2, v3, v4, rfl, hd, hs, hc⟩ := h.at_ j hj
  exact ⟨d, o, C, e, dq, v0, v1, v2, v3, v4, rfl, Nat.lt_of_lt_of_le hd hb.size, hs.kept hb hB, hc.keep fun k => World.cell?_of_block (w := w) (hb.block d (Nat.lt_of_lt_of_le hd hB))⟩⟩
theorem ListA.nil (w : World) : ListA w [] none 0 := ⟨by simp, by simp, by simp, fun j hj => nomatch hj⟩
def methV (m : MethP) (v : Value) : Value := .agg #[.int .u8 m.cl, .int .u8 m.co, .bool m.sy, v]
def BoxM (w : World) (b cl co : Nat) (sy : Bool) (v : Value) : Prop := w.heap[b]? = some (.cells #[.int .u8 cl, .int .u8 co, .bool sy, v] 24 (0, 0))
section
variable {w w' : World} {b B cl co : Nat} {sy : Bool} {v : Value}
theorem BoxM.new (w : World) (cl co : Nat) (sy : Bool) (v : Value) : BoxM (w.alloc (Obj.cells #[.int .u8 cl, .int .u8 co, .bool sy, v] 24)) w.heap.size cl co sy v := heap_alloc_new w _
theorem BoxM.lt (h : BoxM w b cl co sy v) : b < w.heap.size := (Array.getElem?_eq_some_iff.1 h).1
theorem BoxM.kept (h : BoxM w b cl co sy v) (hb : Below B w w') (hB : w.heap.size ≤ B) : BoxM w' b cl co sy v := (hb.block b (Nat.lt_of_lt_of_le h.lt hB)).trans h
theorem BoxM.c0 (h : BoxM w b cl co sy v) : w.cell? ⟨b, 0, none⟩ = some (.int .u8 cl) := cell_of_row w b 0 _ 24 (0, 0) h
theorem BoxM.c1 (h : BoxM w b cl co sy v) : w.cell? ⟨b, 1, none⟩ = some (.int .u8 co) := cell_of_row w b 1 _ 24 (0, 0) h
theorem BoxM.c2 (h : BoxM w b cl co sy v) : w.cell? ⟨b, 2, none⟩ = some (.bool sy) := cell_of_row w b 2 _ 24 (0, 0) h
theorem BoxM.c3 (h : BoxM w b cl co sy v) : w.cell? ⟨b, 3, none⟩ = some v := cell_of_row w b 3 _ 24 (0, 0) h
theorem BoxM.fr (h : BoxM w b cl co sy v) (i : Nat) : w.frozen? ⟨b, i, none⟩ = false := frozen_of_row w b i _ 24 h
end
theorem BoxS.kept {w w' : World} {b B : Nat} {s : Shape} (h : BoxS w b s) (hb : Below B w w') (hB : w.heap.size ≤ B) : BoxS w' b s := (hb.block b (Nat.lt_of_lt_of_le (Array.getElem?_eq_some_iff.1 h).1 hB)).trans h
theorem BoxS.c2 {w : World} {b : Nat} {s : Shape} (h : BoxS w b s) : w.cell? ⟨b, 2, none⟩ = some (.string s.kinds) := cell_of_row w b 2 _ 70 (0, 0) h
open Classical in
noncomputable def errC (m : MethP) : Nat := if validM m then 0 else 80
theorem errC_ok {m : MethP} (h : validM m) : errC m = 0 := if_pos h
theorem errC_no {m : MethP} (h : ¬ validM m) : errC m = 80 := if_neg h
theorem kinds_of {cl co : Nat} {s : Shape} (h : m_findD cl co = some s) : kindsD cl co = some (sb s.kinds) := by unfold kindsD; rw [h]; rfl
theorem kinds_none {cl co : Nat} (h : m_findD cl co = none) : kindsD cl co = none := by unfold kindsD; rw [h]; rfl
theorem valid_iff {m : MethP} {s : Shape} (h : m_findD m.cl m.co = some s) : validM m ↔ allV (sb s.kinds) m.args ∧ (m.sy = true → 2 < m.cl) := by
 unfold validM
 rw [kinds_of h]
 constructor
 ·rintro ⟨ks, hk, h1, h2⟩
  cases hk
  exact ⟨h1, h2⟩
 ·rintro ⟨h1, h2⟩
  exact ⟨_, rfl, h1, h2⟩
set_option maxRecDepth 100000 in
set_option maxHeartbeats 8000000 in
theorem mcheck_walk (cl co : Nat) (sy : Bool) (l : List ArgP) (A : Option Addr) (c : Nat) (w : World) (h : ListA w l A c) (hc : ∀ a ∈ l, cntT a.v ≤ 1000000) :
    Calls Tryz.prog 10 #[.agg #[.int .u8 cl, .int .u8 co, .bool sy, .slice A l.length c]] w fun e w' => e = .returned (.int .i64 (errC ⟨cl, co, sy, l⟩)) ∧ Below w.heap.size w w' := by
  obtain ⟨R, hR⟩ : ∃ R, R = errC ⟨cl, co, sy, l⟩ := ⟨_, rfl⟩
  rw [← hR]
  have HR := Lib.hid hR
  have hX := BoxM.new w cl co sy (.slice A l.length c)
  have hb0 : Below w.heap.size w (w.alloc (Obj.cells #[.int .u8 cl, .int .u8 co, .bool sy, .slice A l.length c] 24)) := below_box w _
  have hlm := h.lm
  have HL := Lib.hid (fun w' (hb : Below w.heap.size w w') => h.kept hb (Nat.le_refl _))
  have HC := Lib.hid hc
  have HF := Lib.hid (fun w => mfind_any cl co w)
  generalize hW : w.alloc (Obj.cells #[.int .u8 cl, .int .u8 co, .bool sy, .slice A l.length c] 24) = W at *
  have HW := Lib.hid hW
  have HB := Lib.hid (And.intro hb0 hX)
  have p0 := hX.c0
  have p1 := hX.c1
  have p2 := hX.c2
  have p3 := hX.c3
  clear hR h hc hb0 hW
  cases hf : m_findD cl co with
  | none =>
    rw [hf] at HF
    have hr : R = 80 := by
      rw [HR.out]
      exact errC_no fun ⟨ks, hk, _⟩ => by rw [kinds_none hf] at hk; cases hk
    subst hr
    clear hf hX
    simp only [Option.isSome, Option.getD] at HF
    go_enter Tryz.func10, Tryz.ntmps10
    go_upto_region 1 with fail
    rw [HW.out]
    go_wp2_with fail
    refine (HF.out _).mono ?_
    rintro e w1 ⟨rfl, hb1⟩
    have hb1' : Below w.heap.size w w1 := HB.out.1.trans (hb1.mono HB.out.1.size)
    go_wp2_with fail
    go_ret
    exact ⟨rfl, hb1'.alloc hb1'.size _⟩
  | some s =>
    have hks := kinds_ok (kinds_of hf)
    have hvi := @valid_iff ⟨cl, co, sy, l⟩ s hf
    rw [hf] at HF
    simp only [Option.isSome, Option.getD] at HF
    obtain ⟨hcl1, hcl2, _, hkl, hlet⟩ := hks
    rw [sb_length] at hkl
    have HVI := Lib.hid hvi
    have HLET := Lib.hid hlet
    clear hf hX hvi hlet
    obtain ⟨sc, sw, sk⟩ := s
    simp only [] at *
    by_cases hlen : l.length = sk.size
    · have hlk : l.length ≤ 3 := by omega
      have t1 : ((l.length : Int) != (sk.size : Int)) = false := by simp; omega
      by_cases hbad : sy = true ∧ cl ≤ 2
      · obtain ⟨rfl, hcl⟩ := hbad
        have hr : R = 80 := by
          rw [HR.out]
          exact errC_no fun hv => by have := (HVI.out.1 hv).2 rfl; omega
        subst hr
        have HCM := Lib.hid (fun w => (show Calls Tryz.prog 19 #[.int .u8 cl] w fun e w' => e = .returned (.bool false) ∧ w' = w by have := isCmd_any cl w; rwa [decide_eq_false (by omega)] at this))
        clear hlen
        go_enter Tryz.func10, Tryz.ntmps10
        go_upto_region 1 with fail
        rw [HW.out]
        go_wp2_with fail
        refine (HF.out _).mono ?_
        rintro e w1 ⟨rfl, hb1⟩
        have hb1' : Below w.heap.size w w1 := HB.out.1.trans (hb1.mono HB.out.1.size)
        have hX2 := (HB.out.2.kept hb1 (Nat.le_refl _)).kept (below_box w1 (Obj.cells #[.int .u8 sc, .string sw, .string sk] 70)) (Nat.le_refl _)
        have hS2 : BoxS (w1.alloc (Obj.cells #[.int .u8 sc, .string sw, .string sk] 70)) w1.heap.size ⟨sc, sw, sk⟩ := heap_alloc_new w1 _
        have q0 := hX2.c0
        have q2 := hX2.c2
        have q3 := hX2.c3
        have s2 := hS2.c2
        go_wp2_with fail
        refine (HCM.out _).mono ?_
        rintro e w2 ⟨rfl, rfl⟩
        go_wp2_with fail
        go_ret
        exact ⟨rfl, hb1'.alloc hb1'.size _⟩
      · have hways : sy = false ∨ sy = true ∧ 2 < cl := by
          cases hsy0 : sy with
          | false => exact .inl rfl
          | true => exact .inr ⟨rfl, by have : ¬ cl ≤ 2 := fun h => hbad ⟨hsy0, h⟩; omega⟩
        have hsy : sy = true → 2 < cl := by
          intro e
          rcases hways with e2 | e2
          · rw [e2] at e; cases e
          · exact e2.2
        have HV2 := Lib.hid (show validM ⟨cl, co, sy, l⟩ ↔ ∀ j (h : j < (sb sk).length) (h' : j < l.length), validA (sb sk)[j].toNat l[j] by
          rw [HVI.out, allV_iff]
          exact ⟨fun h => h.1.2, fun h => ⟨⟨by rw [sb_length]; exact hlen, h⟩, hsy⟩⟩)
        have HLEN := Lib.hid hlen
        clear hbad hsy hlen
        rcases hways with rfl | ⟨rfl, hcl⟩
        case' inl =>
          go_enter Tryz.func10, Tryz.ntmps10
          go_upto_region 1 with fail
          rw [HW.out]
          go_wp2_with fail
          refine (HF.out _).mono ?_
          rintro e w1 ⟨rfl, hb1⟩
          have hb1' : Below w.heap.size w w1 := HB.out.1.trans (hb1.mono HB.out.1.size)
          have hX2 := (HB.out.2.kept hb1 (Nat.le_refl _)).kept (below_box w1 (Obj.cells #[.int .u8 sc, .string sw, .string sk] 70)) (Nat.le_refl _)
          have hS2 : BoxS (w1.alloc (Obj.cells #[.int .u8 sc, .string sw, .string sk] 70)) w1.heap.size ⟨sc, sw, sk⟩ := heap_alloc_new w1 _
          have q0 := hX2.c0
          have q2 := hX2.c2
          have q3 := hX2.c3
          have s2 := hS2.c2
          go_upto_region 6 with fail
        case' inr =>
          have HCM := Lib.hid (fun w => (show Calls Tryz.prog 19 #[.int .u8 cl] w fun e w' => e = .returned (.bool true) ∧ w' = w by have := isCmd_any cl w; rwa [decide_eq_true (by omega)] at this))
          go_enter Tryz.func10, Tryz.ntmps10
          go_upto_region 1 with fail
          rw [HW.out]
          go_wp2_with fail
          refine (HF.out _).mono ?_
          rintro e w1 ⟨rfl, hb1⟩
          have hb1' : Below w.heap.size w w1 := HB.out.1.trans (hb1.mono HB.out.1.size)
          have hX2 := (HB.out.2.kept hb1 (Nat.le_refl _)).kept (below_box w1 (Obj.cells #[.int .u8 sc, .string sw, .string sk] 70)) (Nat.le_refl _)
          have hS2 : BoxS (w1.alloc (Obj.cells #[.int .u8 sc, .string sw, .string sk] 70)) w1.heap.size ⟨sc, sw, sk⟩ := heap_alloc_new w1 _
          have q0 := hX2.c0
          have q2 := hX2.c2
          have q3 := hX2.c3
          have s2 := hS2.c2
          go_wp2_with fail
          refine (HCM.out _).mono ?_
          rintro e w2 ⟨rfl, rfl⟩
          go_upto_region 6 with fail
        all_goals
          have hs1 := hb1'.size
          have hb2 : Below w.heap.size w (w1.alloc (Obj.cells #[.int .u8 sc, .string sw, .string sk] 70)) := hb1'.alloc hb1'.size _
          have hz2 : w1.heap.size < (w1.alloc (Obj.cells #[.int .u8 sc, .string sw, .string sk] 70)).heap.size := by simp
          clear q0 q2 s2 t1 p0 p1 p2 p3 hb1 hb1'
          generalize w1.alloc (Obj.cells #[.int .u8 sc, .string sw, .string sk] 70) = W2 at *
          have HP := Lib.hid (And.intro hb2 hS2)
          clear hX2 hS2 hb2
          go_wp2_with fail
          go_loopw [37] (fun i wr => ∃ j : Nat, j ≤ l.length ∧ i = .int .i64 j ∧ Below W2.heap.size W2 wr ∧ Hid (∀ q (h : q < (sb sk).length) (h' : q < l.length), q < j → validA (sb sk)[q].toNat l[q])) (fun i _ => l.length - (intOf i).toNat)
          case atStart => exact ⟨0, by omega, rfl, Below.refl _ _, Lib.hid fun q _ _ h => absurd h (by omega)⟩
          case round =>
            obtain ⟨j, hj, rfl, hb, hlo⟩ := hrel
            rename World => wj
            clear q3
            by_cases hlt : j < l.length
            · have hjk : j < sk.size := by have := HLEN.out; omega
              have hjl : (j : Int) < (l.length : Int) := by omega
              have hjs : (j : Int) < (sk.size : Int) := by omega
              have hbw : Below w.heap.size w wj := HP.out.1.trans (hb.mono HP.out.1.size)
              obtain ⟨d, o, B, e, dq, v0, v1, v2, v3, v4, rfl, hd, hsh, ⟨e0, e1, e2⟩, ⟨e3, e4, e5⟩, e6, e7, e8, e9, e10, e11⟩ := (HL.out wj hbw).at_ j hlt
              obtain ⟨xk, xn, xs, xa, xb, xc, xd, xe, xf, hxx⟩ := hsh.v.cells5
              simp only [List.cons.injEq, and_true] at hxx
              obtain ⟨rfl, rfl, rfl, rfl, rfl⟩ := hxx
              have hS3 : BoxS wj w1.heap.size ⟨sc, sw, sk⟩ := (hb.block _ hz2).trans HP.out.2
              have hkk : (sb sk)[j]'(by rw [sb_length]; exact hjk) = sk[j] := sb_get sk j hjk _
              have hlj : lett (sk[j].toNat) := by rw [← hkk]; exact HLET.out _ (List.getElem_mem _)
              have hcj := HC.out _ (List.getElem_mem hlt)
              have HVA := Lib.hid (fun w' (hb : Below wj.heap.size wj w') => misValid_any sk[j].toNat l[j] B e dq (.int .u8 xk) (.int .u64 xn) (.string xs) (.slice xa xb xc) (.slice xd xe xf) w' hlj (hsh.kept hb (Nat.le_refl _)) hcj)
              have HKK := Lib.hid hkk
              have HBW := Lib.hid hbw
              obtain ⟨vb, hvb⟩ : ∃ vb, vb = validB sk[j].toNat l[j] := ⟨_, rfl⟩
              rw [← hvb] at HVA
              have HVB := Lib.hid hvb
              have HBX := Lib.hid (BoxG.new wj l[j] (.slice B l[j].q.length e) (.int .u8 xk) (.int .u64 xn) (.string xs) (.slice xa xb xc) (.slice xd xe xf))
              have HSX := Lib.hid (BoxS.kept hS3 (below_box wj (Obj.cells #[.bool l[j].is, .int .u64 l[j].n, .string l[j].s, .int .u32 l[j].f, .string l[j].g, .string l[j].h, .slice B l[j].q.length e, .int .u8 xk, .int .u64 xn, .string xs, .slice xa xb xc, .slice xd xe xf] 52)) (Nat.le_refl _))
              clear hkk hlj hcj hsh hbw hvb hS3
              unfold argV at HVA
              generalize hlj : l[j] = aj at *
              obtain ⟨ai, an, az, af, ag, ah, aq, av⟩ := aj
              simp only [] at *
              go_upto_region 9 with fail
              have hb3 : Below wj.heap.size wj (wj.alloc (Obj.cells #[.bool ai, .int .u64 an, .string az, .int .u32 af, .string ag, .string ah, .slice B aq.length e, .int .u8 xk, .int .u64 xn, .string xs, .slice xa xb xc, .slice xd xe xf] 52)) := below_box wj _
              clear e0 e1 e2 e3 e4 e5 e6 e7 e8 e9 e10 e11
              generalize wj.alloc (Obj.cells #[.bool ai, .int .u64 an, .string az, .int .u32 af, .string ag, .string ah, .slice B aq.length e, .int .u8 xk, .int .u64 xn, .string xs, .slice xa xb xc, .slice xd xe xf] 52) = W3 at *
              have HKEEP := Lib.hid (fun w' (hb : Below W3.heap.size W3 w') => (show (w'.cell? ⟨w1.heap.size, 2, none⟩ = some (.string sk)) ∧ (w'.cell? ⟨wj.heap.size, 0, none⟩ = some (.bool ai) ∧ w'.cell? ⟨wj.heap.size, 1, none⟩ = some (.int .u64 an) ∧ w'.cell? ⟨wj.heap.size, 2, none⟩ = some (.string az)) ∧
                  (w'.cell? ⟨wj.heap.size, 3, none⟩ = some (.int .u32 af) ∧ w'.cell? ⟨wj.heap.size, 4, none⟩ = some (.string ag) ∧ w'.cell? ⟨wj.heap.size, 5, none⟩ = some (.string ah)) ∧ w'.cell? ⟨wj.heap.size, 6, none⟩ = some (.slice B aq.length e) ∧
                  (w'.cell? ⟨wj.heap.size, 7, none⟩ = some (.int .u8 xk) ∧ w'.cell? ⟨wj.heap.size, 8, none⟩ = some (.int .u64 xn) ∧ w'.cell? ⟨wj.heap.size, 9, none⟩ = some (.string xs) ∧ w'.cell? ⟨wj.heap.size, 10, none⟩ = some (.slice xa xb xc) ∧ w'.cell? ⟨wj.heap.size, 11, none⟩ = some (.slice xd xe xf)) from
                ⟨(BoxS.kept HSX.out hb (Nat.le_refl _)).c2, (BoxG.kept HBX.out hb (Nat.le_refl _)).cells⟩))
              have HB3 := Lib.hid hb3
              have HVA3 := Lib.hid (fun w' (hb : Below W3.heap.size W3 w') => HVA.out w' (HB3.out.trans (hb.mono HB3.out.size)))
              have hbd : Below W3.heap.size W3 W3.drew := below_drew1 (Below.refl _ _)
              have HNX := Lib.hid (fun w' w'' (hb' : Below w'.heap.size w' w'') (hb : Below W3.heap.size W3 w') => hb.trans (hb'.mono hb.size))
              have HLJ := Lib.hid hlj
              clear hb3 hlj
              go_region_held3 (fun w' => (w'.cell? ⟨w1.heap.size, 2, none⟩ = some (.string sk)) ∧ (w'.cell? ⟨wj.heap.size, 0, none⟩ = some (.bool ai) ∧ w'.cell? ⟨wj.heap.size, 1, none⟩ = some (.int .u64 an) ∧ w'.cell? ⟨wj.heap.size, 2, none⟩ = some (.string az)) ∧
                  (w'.cell? ⟨wj.heap.size, 3, none⟩ = some (.int .u32 af) ∧ w'.cell? ⟨wj.heap.size, 4, none⟩ = some (.string ag) ∧ w'.cell? ⟨wj.heap.size, 5, none⟩ = some (.string ah)) ∧ w'.cell? ⟨wj.heap.size, 6, none⟩ = some (.slice B aq.length e) ∧
                  (w'.cell? ⟨wj.heap.size, 7, none⟩ = some (.int .u8 xk) ∧ w'.cell? ⟨wj.heap.size, 8, none⟩ = some (.int .u64 xn) ∧ w'.cell? ⟨wj.heap.size, 9, none⟩ = some (.string xs) ∧ w'.cell? ⟨wj.heap.size, 10, none⟩ = some (.slice xa xb xc) ∧ w'.cell? ⟨wj.heap.size, 11, none⟩ = some (.slice xd xe xf))) (exact HKEEP.out _ (by assumption))
                ((go_at_call 26
                  refine (HVA3.out _ (by assumption)).mono ?_
                  rintro e5 w5 ⟨rfl, hb5⟩
                  have hb5' := HNX.out _ _ hb5 (by assumption)))
              have hB5 : Below W2.heap.size W2 w5 := hb.trans ((HB3.out.trans (hb5'.mono HB3.out.size)).mono hb.size)
              have hlo2 : vb = true → ∀ q (h : q < (sb sk).length) (h' : q < l.length), q < j + 1 → validA (sb sk)[q].toNat l[q] := fun hv q h h' hq => by
                by_cases hq2 : q < j
                · exact hlo.out q h h' hq2
                · obtain rfl : q = j := by omega
                  have h1 := (validB_iff _ _).1 (HVB.out.symm.trans hv)
                  rw [HKK.out, HLJ.out]
                  exact h1
              have hno : vb = false → R = 80 := fun hv => by
                rw [HR.out]
                refine errC_no fun hval => ?_
                have h1 := HV2.out.1 hval j (by rw [sb_length]; exact hjk) hlt
                rw [HKK.out, HLJ.out] at h1
                have := (validB_iff _ _).2 h1
                rw [← HVB.out, hv] at this
                cases this
              have HLO2 := Lib.hid hlo2
              have HNO := Lib.hid hno
              have HB5 := Lib.hid hB5
              clear hlo2 hno hB5 hlo hd
              cases vb with
              | true =>
                go_wp2_with fail
                go_roundw
                case rel => exact ⟨j + 1, by omega, by go_num, HB5.out, Lib.hid (HLO2.out rfl)⟩
                case measure => simp [intOf]; omega
              | false =>
                obtain rfl := HNO.out rfl
                go_wp2_with fail
                go_ret
                exact ⟨rfl, HP.out.1.trans (HB5.out.mono HP.out.1.size)⟩
            · have hjl : ¬ (j : Int) < (l.length : Int) := by omega
              have hr : R = 0 := by
                rw [HR.out]
                exact errC_ok (HV2.out.2 fun q h h' => hlo.out q h h' (by omega))
              subst hr
              go_wp2_with fail
              go_ret
              exact ⟨rfl, HP.out.1.trans (hb.mono HP.out.1.size)⟩
    · have hr : R = 80 := by
        rw [HR.out]
        exact errC_no fun hv => by have := allV_len (HVI.out.1 hv).1; rw [sb_length] at this; exact hlen this
      subst hr
      have t1 : ((l.length : Int) != (sk.size : Int)) = true := by simp; omega
      clear hlen
      go_enter Tryz.func10, Tryz.ntmps10
      go_upto_region 1 with fail
      rw [HW.out]
      go_wp2_with fail
      refine (HF.out _).mono ?_
      rintro e w1 ⟨rfl, hb1⟩
      have hb1' : Below w.heap.size w w1 := HB.out.1.trans (hb1.mono HB.out.1.size)
      have hX2 := (HB.out.2.kept hb1 (Nat.le_refl _)).kept (below_box w1 (Obj.cells #[.int .u8 sc, .string sw, .string sk] 70)) (Nat.le_refl _)
      have hS2 : BoxS (w1.alloc (Obj.cells #[.int .u8 sc, .string sw, .string sk] 70)) w1.heap.size ⟨sc, sw, sk⟩ := heap_alloc_new w1 _
      have q3 := hX2.c3
      have s2 := hS2.c2
      go_wp2_with fail
      go_ret
      exact ⟨rfl, hb1'.alloc hb1'.size _⟩
end Go.Proofs.YtpbdnfonflmncaaGreat
namespace Go.Proofs.YtpbdnfonflmncaaGreat
open Go.RowKit
theorem flagsD_snoc : ∀ (l : List ArgP) (a : ArgP), m_flagsD (l ++ [a]) = m_flagsD l + (if a.is = true then 2 ^ l.length else 0)
 | [], a => by simp [m_flagsD]
 | b :: l, a => by
  simp only [List.cons_append, m_flagsD, flagsD_snoc l a, List.length_cons, Nat.pow_succ]
  split <;> split <;> omega
theorem flags_take (l : List ArgP) (j : Nat) (h : j < l.length) : m_flagsD (l.take (j + 1)) = m_flagsD (l.take j) + (if l[j].is = true then 2 ^ j else 0) := by
 rw [List.take_succ_eq_append_getElem h, flagsD_snoc, List.length_take, Nat.min_eq_left (by omega)]
theorem flags_or {f j : Nat} (hj : j < 3) (hf : f < 2 ^ j) : bits .or .u64 (f : Int) ((2 ^ j : Nat) : Int) = ((f + 2 ^ j : Nat) : Int) := by
 rcases (show j = 0 ∨ j = 1 ∨ j = 2 by omega) with rfl | rfl | rfl
 ·obtain rfl : f = 0 := by simpa using hf
  decide
 ·rcases (show f = 0 ∨ f = 1 by omega) with rfl | rfl <;> decide
 ·rcases (show f = 0 ∨ f = 1 ∨ f = 2 ∨ f = 3 by omega) with rfl | rfl | rfl | rfl <;> decide
set_option maxRecDepth 100000 in
set_option maxHeartbeats 4000000 in
theorem m_flags_any (l : List ArgP) (A : Option Addr) (c : Nat) (w : World) (h : ListA w l A c) (hl : l.length ≤ 3) :
  Calls Tryz.prog 21 #[.slice A l.length c] w fun e w' => e = .returned (.int .u64 (m_flagsD l)) ∧ Below w.heap.size w w' := by
 obtain ⟨R, hR⟩ : ∃ R, R = m_flagsD l := ⟨_, rfl⟩
 rw [← hR]
 have HR := Lib.hid hR
 have HL := Lib.hid (fun w' (hb : Below w.heap.size w w') => h.kept hb (Nat.le_refl _))
 clear hR h
 go_enter Tryz.func21, Tryz.ntmps21
 go_wp2_with fail
 go_loopw [3, 8] (fun f i wr => ∃ (j F : Nat), j ≤ l.length ∧ i = .int .i64 j ∧ f = .int .u64 F ∧ Below w.heap.size w wr ∧ Hid (F = m_flagsD (l.take j))) (fun _ i _ => l.length - (intOf i).toNat)
 case atStart => exact ⟨0, 0, by omega, rfl, rfl, Below.refl _ _, Lib.hid rfl⟩
 case round =>
  obtain ⟨j, F, hj, rfl, rfl, hb, hF⟩ := hrel
  rename World => wj
  by_cases hlt : j < l.length
  ·have hjl : (j : Int) < (l.length : Int) := by omega
   obtain ⟨d, o, B, e, dq, v0, v1, v2, v3, v4, rfl, hd, hsh, ⟨e0, e1, e2⟩, ⟨e3, e4, e5⟩, e6, e7, e8, e9, e10, e11⟩ := (HL.out wj hb).at_ j hlt
   obtain ⟨xk, xn, xs, xa, xb, xc, xd, xe, xf, hxx⟩ := hsh.v.cells5
   simp only [List.cons.injEq, and_true] at hxx
   obtain ⟨rfl, rfl, rfl, rfl, rfl⟩ := hxx
   have hft := flags_take l j hlt
   have hFl := m_flagsD_lt (l.take j)
   rw [List.length_take, Nat.min_eq_left (by omega), ← hF.out] at hFl
   rw [← hF.out] at hft
   have hor := flags_or (j := j) (by omega) hFl
   have hb2 : Below w.heap.size w (wj.alloc (Obj.cells #[.bool l[j].is, .int .u64 l[j].n, .string l[j].s, .int .u32 l[j].f, .string l[j].g, .string l[j].h, .slice B l[j].q.length e, .int .u8 xk, .int .u64 xn, .string xs, .slice xa xb xc, .slice xd xe xf] 52)) := hb.alloc hb.size _
   have hX := BoxG.new wj l[j] (.slice B l[j].q.length e) (.int .u8 xk) (.int .u64 xn) (.string xs) (.slice xa xb xc) (.slice xd xe xf)
   have x0 := hX.cells.1.1
   have HFT := Lib.hid hft
   have HB2 := Lib.hid hb2
   have hj3 : j = 0 ∨ j = 1 ∨ j = 2 := by omega
   clear hsh hft hFl hX hb2 hd hF
   generalize l[j] = aj at *
   obtain ⟨ai, an, az, af, ag, ah, aq, av⟩ := aj
   simp only [] at *
   cases ai with
   | false =>
    clear hor
    go_wp2_with fail
    go_roundw
    case rel => exact ⟨j + 1, F, by omega, by go_num, rfl, HB2.out, Lib.hid (by have := HFT.out; simpa using this.symm)⟩
    case measure => simp [intOf]; omega
   | true =>
    have HJ := Lib.hid hlt
    go_upto_region 6 with fail
    clear e0 e1 e2 e3 e4 e5 e6 e7 e8 e9 e10 e11 x0
    have hjl := HJ.out
    rcases hj3 with rfl | rfl | rfl
    all_goals
     simp only [Nat.reducePow] at hor HFT
     go_wp2_with fail
     first | exact ⟨⟨1, F + 1, by omega, rfl, congrArg (Value.int .u64) hor, HB2.out, Lib.hid (by have := HFT.out; simpa using this.symm)⟩, by simp [intOf]; omega⟩ | exact ⟨⟨2, F + 2, by omega, rfl, congrArg (Value.int .u64) hor, HB2.out, Lib.hid (by have := HFT.out; simpa using this.symm)⟩, by simp [intOf]; omega⟩ | exact ⟨⟨3, F + 4, by omega, rfl, congrArg (Value.int .u64) hor, HB2.out, Lib.hid (by have := HFT.out; simpa using this.symm)⟩, by simp [intOf]; omega⟩
  ·have hjl : ¬ (j : Int) < (l.length : Int) := by omega
   obtain rfl : F = R := by
    rw [hF.out, HR.out, List.take_of_length_le (by omega)]
   go_wp2_with fail
   go_ret
   exact ⟨rfl, hb⟩
end Go.Proofs.YtpbdnfonflmncaaGreat
