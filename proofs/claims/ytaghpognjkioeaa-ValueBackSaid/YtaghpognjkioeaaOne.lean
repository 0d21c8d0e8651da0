/-
  For any two values: if both may be, they have the same bytes just if they are the same.
  Conditions: none.
-/
import Derived.Test.YtaghpognjkioeaaValO
import Derived.Test.YtaghpognjkioeaaValQ
import Derived.Deep.RegionHeld3
namespace Go.Proofs.Ytaghpognjkioeaa
open Go.ChangeShapes Go.WideShapes Go.ChangeAt Go.RowKit
open Go.ChangeMaps (open_string shut_string)
set_option linter.unusedVariables false
set_option linter.unusedSimpArgs false

/-- Two values in boxes of the call's own, and two rows of bytes. -/
structure TwoB (w0 : World) (p q : Nat) (a0 a1 a2 a3 a4 b0 b1 b2 b3 b4 : Value) (v1 : Value) (E1 : List UInt8) (v2 : Value) (E2 : List UInt8) (w : World) : Prop where
  a : BoxV w p a0 a1 a2 a3 a4
  b : BoxV w q b0 b1 b2 b3 b4
  s1 : ∃ g, Shows w g v1 E1
  s2 : ∃ g, Shows w g v2 E2
  bel : Below w0.heap.size w0 w
section
variable {w0 w w' : World} {p q : Nat} {a0 a1 a2 a3 a4 b0 b1 b2 b3 b4 : Value} {v1 : Value} {E1 : List UInt8} {v2 : Value} {E2 : List UInt8}
theorem shows_below {w w' : World} {v : Value} {E : List UInt8} (h : ∃ g, Shows w g v E) (hb : Below w.heap.size w w') : ∃ g, Shows w' g v E := by
  obtain ⟨g, hg⟩ := h
  exact ⟨g, hg.keep hb.size (fun hp => hb.block g (hg.lt hp))⟩
theorem TwoB.step (h : TwoB w0 p q a0 a1 a2 a3 a4 b0 b1 b2 b3 b4 v1 E1 v2 E2 w) (hb : Below w.heap.size w w') : TwoB w0 p q a0 a1 a2 a3 a4 b0 b1 b2 b3 b4 v1 E1 v2 E2 w' :=
  ⟨h.a.kept hb (Nat.le_refl _), h.b.kept hb (Nat.le_refl _), shows_below h.s1 hb, shows_below h.s2 hb, h.bel.trans (hb.mono h.bel.size)⟩
theorem TwoB.drew (h : TwoB w0 p q a0 a1 a2 a3 a4 b0 b1 b2 b3 b4 v1 E1 v2 E2 w) : TwoB w0 p q a0 a1 a2 a3 a4 b0 b1 b2 b3 b4 v1 E1 v2 E2 w.drew := ⟨h.a, h.b, h.s1, h.s2, below_drew1 h.bel⟩
theorem TwoB.calls {f : FuncId} {args : Array Value} {r : Ending} (hc : ∀ w, TwoB w0 p q a0 a1 a2 a3 a4 b0 b1 b2 b3 b4 v1 E1 v2 E2 w → Calls Try.prog f args w fun e w' => e = r ∧ Below w.heap.size w w') :
    ∀ w, TwoB w0 p q a0 a1 a2 a3 a4 b0 b1 b2 b3 b4 v1 E1 v2 E2 w → Calls Try.prog f args w fun e w' => e = r ∧ TwoB w0 p q a0 a1 a2 a3 a4 b0 b1 b2 b3 b4 v1 E1 v2 E2 w' :=
  fun w h => (hc w h).mono fun e w' he => ⟨he.1, h.step he.2⟩
theorem TwoB.cells (h : TwoB w0 p q a0 a1 a2 a3 a4 b0 b1 b2 b3 b4 v1 E1 v2 E2 w) : (w.cell? ⟨p, 0, none⟩ = some a0 ∧ w.cell? ⟨p, 1, none⟩ = some a1 ∧ w.cell? ⟨p, 2, none⟩ = some a2 ∧ w.cell? ⟨p, 3, none⟩ = some a3 ∧ w.cell? ⟨p, 4, none⟩ = some a4) ∧
    (w.cell? ⟨q, 0, none⟩ = some b0 ∧ w.cell? ⟨q, 1, none⟩ = some b1 ∧ w.cell? ⟨q, 2, none⟩ = some b2 ∧ w.cell? ⟨q, 3, none⟩ = some b3 ∧ w.cell? ⟨q, 4, none⟩ = some b4) ∧
    (convert 31 9 v1).run Try.prog w = .ok (.string (str8 E1)) w ∧ (convert 31 9 v2).run Try.prog w = .ok (.string (str8 E2)) w := by
  obtain ⟨g1, h1⟩ := h.s1
  obtain ⟨g2, h2⟩ := h.s2
  exact ⟨⟨h.a.c0, h.a.c1, h.a.c2, h.a.c3, h.a.c4⟩, ⟨h.b.c0, h.b.c1, h.b.c2, h.b.c3, h.b.c4⟩, conv_at h1, conv_at h2⟩
end

set_option maxRecDepth 100000 in
set_option maxHeartbeats 4000000 in
theorem one_walk (t : Tree) (va : List Value) (u : Tree) (vb : List Value) (w : World) (ht : ShowsT w t va) (hu : ShowsT w u vb) :
    Calls Try.prog 7 #[.agg va.toArray, .agg vb.toArray] w fun e w' => e = .returned (.bool true) ∧ Below w.heap.size w w' := by
  have HSM := Lib.hid (fun w' (hw' : Below w.heap.size w w') => small_any t va w' (ht.kept hw' (Nat.le_refl _)))
  have HSM2 := Lib.hid (fun w' (hw' : Below w.heap.size w w') => small_any u vb w' (hu.kept hw' (Nat.le_refl _)))
  have HH := Lib.hid head_any
  have HPO := Lib.hid (fun (hc : checkT t = 0) w' (hw' : Below w.heap.size w w') => put_ok t va w' (ht.kept hw' (Nat.le_refl _)) hc)
  have HPN := Lib.hid (fun (hc : checkT t ≠ 0) w' (hw' : Below w.heap.size w w') => put_no t va w' (ht.kept hw' (Nat.le_refl _)) hc)
  have HPO2 := Lib.hid (fun (hc : checkT u = 0) w' (hw' : Below w.heap.size w w') => put_ok u vb w' (hu.kept hw' (Nat.le_refl _)) hc)
  have HPN2 := Lib.hid (fun (hc : checkT u ≠ 0) w' (hw' : Below w.heap.size w w') => put_no u vb w' (hu.kept hw' (Nat.le_refl _)) hc)
  have HSAME := Lib.hid (fun (hc : cntT t ≤ 1000000) w' (hw' : Below w.heap.size w w') => same_any t u va vb w' (ht.kept hw' (Nat.le_refl _)) (hu.kept hw' (Nat.le_refl _)) hc)
  have HINJ : Hid (checkT t = 0 → checkT u = 0 → ((bytesT t == bytesT u) == sameT t u) = true) := Lib.hid (fun h1 h2 => by
    by_cases he : t = u
    · subst he
      rw [sameT_refl]
      simp
    · have h3 : sameT t u = false := by
        cases hs : sameT t u with
        | false => rfl
        | true => exact absurd ((sameT_iff t u).1 hs) he
      have h4 : (bytesT t == bytesT u) = false := beq_eq_false_iff_ne.2 (fun e => he (bytes_inj h1 h2 e))
      rw [h3, h4]
      rfl)
  obtain ⟨k0, n0, s0, a3, n3, c3, a4, n4, c4, rfl⟩ := ht.cells5
  obtain ⟨k1, n1, s1, b3, m3, e3, b4, m4, e4, rfl⟩ := hu.cells5
  have hA1 : Below w.heap.size w (w.alloc (Obj.cells #[.int .u8 k0, .int .u64 n0, .string s0, .slice a3 n3 c3, .slice a4 n4 c4] 27)) := below_boxV _ _
  have hX : BoxV ((w.alloc (Obj.cells #[.int .u8 k0, .int .u64 n0, .string s0, .slice a3 n3 c3, .slice a4 n4 c4] 27)).alloc (Obj.cells #[.int .u8 k1, .int .u64 n1, .string s1, .slice b3 m3 e3, .slice b4 m4 e4] 27)) w.heap.size (.int .u8 k0) (.int .u64 n0) (.string s0) (.slice a3 n3 c3) (.slice a4 n4 c4) :=
    (BoxV.new w).kept ((Below.refl _ _).alloc (Nat.le_refl _) _) (Nat.le_refl _)
  have hY : BoxV ((w.alloc (Obj.cells #[.int .u8 k0, .int .u64 n0, .string s0, .slice a3 n3 c3, .slice a4 n4 c4] 27)).alloc (Obj.cells #[.int .u8 k1, .int .u64 n1, .string s1, .slice b3 m3 e3, .slice b4 m4 e4] 27)) (w.heap.size + 1) (.int .u8 k1) (.int .u64 n1) (.string s1) (.slice b3 m3 e3) (.slice b4 m4 e4) := by
    have := heap_alloc_new (w.alloc (Obj.cells #[.int .u8 k0, .int .u64 n0, .string s0, .slice a3 n3 c3, .slice a4 n4 c4] 27)) (Obj.cells #[.int .u8 k1, .int .u64 n1, .string s1, .slice b3 m3 e3, .slice b4 m4 e4] 27)
    rw [World.size_alloc] at this
    exact this
  have hB := hA1.alloc (by simp) (Obj.cells #[.int .u8 k1, .int .u64 n1, .string s1, .slice b3 m3 e3, .slice b4 m4 e4] 27)
  have hG : TwoB w w.heap.size (w.heap.size + 1) (.int .u8 k0) (.int .u64 n0) (.string s0) (.slice a3 n3 c3) (.slice a4 n4 c4) (.int .u8 k1) (.int .u64 n1) (.string s1) (.slice b3 m3 e3) (.slice b4 m4 e4) (.slice none 0 0) [] (.slice none 0 0) [] _ := ⟨hX, hY, ⟨0, Shows.nil_ _ _⟩, ⟨0, Shows.nil_ _ _⟩, hB⟩
  have H0 := Lib.hid hG
  clear hA1 hX hY hB hG ht hu
  go_enter Try.func7, Try.ntmps7
  go_wp2_with fail
  have hG := H0.out
  clear H0
  generalize (w.alloc (Obj.cells #[.int .u8 k0, .int .u64 n0, .string s0, .slice a3 n3 c3, .slice a4 n4 c4] 27)).alloc (Obj.cells #[.int .u8 k1, .int .u64 n1, .string s1, .slice b3 m3 e3, .slice b4 m4 e4] 27) = W at *
  refine (HSM.out _ hG.bel).mono ?_
  rintro e w1 ⟨r1, rfl, hr1, hb1⟩
  have hG := hG.step hb1
  obtain ⟨⟨x0, x1, x2, x3, x4⟩, ⟨y0, y1, y2, y3, y4⟩, _⟩ := hG.cells
  cases r1 with
  | false =>
    go_wp2_with fail
    refine (HH.out _).mono ?_
    rintro e w2 ⟨rfl, hb2⟩
    have hG := hG.step hb2
    go_wp2_with fail
    go_ret
    exact ⟨rfl, hG.bel⟩
  | true =>
  have hcnt := (hr1 rfl).1
  clear hr1
  go_wp2_with fail
  refine (HSM2.out _ hG.bel).mono ?_
  rintro e w2 ⟨r2, rfl, _, hb2⟩
  have hG := hG.step hb2
  clear x0 x1 x2 x3 x4 y0 y1 y2 y3 y4
  obtain ⟨⟨x0, x1, x2, x3, x4⟩, ⟨y0, y1, y2, y3, y4⟩, _⟩ := hG.cells
  cases r2 with
  | false =>
    go_wp2_with fail
    refine (HH.out _).mono ?_
    rintro e w3 ⟨rfl, hb3⟩
    have hG := hG.step hb3
    go_wp2_with fail
    go_ret
    exact ⟨rfl, hG.bel⟩
  | true =>
  have HSAME2 := Lib.hid (HSAME.out (by omega))
  clear HSAME hcnt HSM HSM2
  by_cases hc1 : checkT t = 0
  case neg =>
    have HP := Lib.hid (HPN.out hc1 _ hG.bel)
    have hcI : ((checkT t : Int) != 0) = true := by simp; omega
    by_cases hc2 : checkT u = 0
    · have HP2 := Lib.hid (HPO2.out hc2)
      clear HPO HPN HPO2 HPN2 HINJ hc2
      generalize checkT t = C1 at *
      go_wp2_with fail
      refine HP.out.mono ?_
      rintro e w3 ⟨rfl, hb3⟩
      have hG := hG.step hb3
      clear x0 x1 x2 x3 x4 y0 y1 y2 y3 y4
      obtain ⟨⟨x0, x1, x2, x3, x4⟩, ⟨y0, y1, y2, y3, y4⟩, _⟩ := hG.cells
      go_wp2_with fail
      refine (HP2.out _ hG.bel).mono ?_
      rintro e w4 ⟨v4, rfl, _, hb4⟩
      have hG := hG.step hb4
      go_wp2_with fail
      refine (HH.out _).mono ?_
      rintro e w5 ⟨rfl, hb5⟩
      have hG := hG.step hb5
      go_wp2_with fail
      go_ret
      exact ⟨rfl, hG.bel⟩
    · have HP2 := Lib.hid (HPN2.out hc2)
      clear HPO HPN HPO2 HPN2 HINJ
      generalize checkT t = C1 at *
      generalize checkT u = C2 at *
      go_wp2_with fail
      refine HP.out.mono ?_
      rintro e w3 ⟨rfl, hb3⟩
      have hG := hG.step hb3
      clear x0 x1 x2 x3 x4 y0 y1 y2 y3 y4
      obtain ⟨⟨x0, x1, x2, x3, x4⟩, ⟨y0, y1, y2, y3, y4⟩, _⟩ := hG.cells
      go_wp2_with fail
      refine (HP2.out _ hG.bel).mono ?_
      rintro e w4 ⟨rfl, hb4⟩
      have hG := hG.step hb4
      go_wp2_with fail
      refine (HH.out _).mono ?_
      rintro e w5 ⟨rfl, hb5⟩
      have hG := hG.step hb5
      go_wp2_with fail
      go_ret
      exact ⟨rfl, hG.bel⟩
  have HP := Lib.hid (HPO.out hc1 _ hG.bel)
  by_cases hc2 : checkT u = 0
  case neg =>
    have HP2 := Lib.hid (HPN2.out hc2)
    have hcI : ((checkT u : Int) != 0) = true := by simp; omega
    clear HPO HPN HPO2 HPN2 HINJ hc1
    generalize checkT u = C2 at *
    go_wp2_with fail
    refine HP.out.mono ?_
    rintro e w3 ⟨v3, rfl, _, hb3⟩
    have hG := hG.step hb3
    clear x0 x1 x2 x3 x4 y0 y1 y2 y3 y4
    obtain ⟨⟨x0, x1, x2, x3, x4⟩, ⟨y0, y1, y2, y3, y4⟩, _⟩ := hG.cells
    go_wp2_with fail
    refine (HP2.out _ hG.bel).mono ?_
    rintro e w4 ⟨rfl, hb4⟩
    have hG := hG.step hb4
    go_wp2_with fail
    refine (HH.out _).mono ?_
    rintro e w5 ⟨rfl, hb5⟩
    have hG := hG.step hb5
    go_wp2_with fail
    go_ret
    exact ⟨rfl, hG.bel⟩
  have HP2 := Lib.hid (HPO2.out hc2)
  have hinj := HINJ.out hc1 hc2
  clear HPO HPN HPO2 HPN2 HINJ
  generalize bytesT t = E1 at *
  generalize bytesT u = E2 at *
  generalize sameT t u = sm at *
  go_wp2_with fail
  refine HP.out.mono ?_
  rintro e w3 ⟨v1, rfl, ho1, hb3⟩
  have hG := hG.step hb3
  obtain ⟨g1, _, hs1⟩ := ho1.shows
  clear x0 x1 x2 x3 x4 y0 y1 y2 y3 y4
  obtain ⟨⟨x0, x1, x2, x3, x4⟩, ⟨y0, y1, y2, y3, y4⟩, _⟩ := hG.cells
  clear ho1
  go_wp2_with fail
  refine (HP2.out _ hG.bel).mono ?_
  rintro e w4 ⟨v2, rfl, ho2, hb4⟩
  have hG := hG.step hb4
  obtain ⟨g2, _, hs2⟩ := ho2.shows
  have hG2 : TwoB w w.heap.size (w.heap.size + 1) (.int .u8 k0) (.int .u64 n0) (.string s0) (.slice a3 n3 c3) (.slice a4 n4 c4) (.int .u8 k1) (.int .u64 n1) (.string s1) (.slice b3 m3 e3) (.slice b4 m4 e4) v1 E1 v2 E2 w4 := ⟨hG.a, hG.b, shows_below ⟨g1, hs1⟩ hb4, ⟨g2, hs2⟩, hG.bel⟩
  have C20 := Lib.hid (TwoB.calls (w0 := w) (p := w.heap.size) (q := w.heap.size + 1) (a0 := .int .u8 k0) (a1 := .int .u64 n0) (a2 := .string s0) (a3 := .slice a3 n3 c3) (a4 := .slice a4 n4 c4) (b0 := .int .u8 k1) (b1 := .int .u64 n1) (b2 := .string s1) (b3 := .slice b3 m3 e3) (b4 := .slice b4 m4 e4) (v1 := v1) (E1 := E1) (v2 := v2) (E2 := E2) (fun w' h => HSAME2.out w' h.bel))
  have C10 := Lib.hid (TwoB.calls (w0 := w) (p := w.heap.size) (q := w.heap.size + 1) (a0 := .int .u8 k0) (a1 := .int .u64 n0) (a2 := .string s0) (a3 := .slice a3 n3 c3) (a4 := .slice a4 n4 c4) (b0 := .int .u8 k1) (b1 := .int .u64 n1) (b2 := .string s1) (b3 := .slice b3 m3 e3) (b4 := .slice b4 m4 e4) (v1 := v1) (E1 := E1) (v2 := v2) (E2 := E2) (fun w' _ => HH.out w'))
  have hEE : ((str8 E1).toList == (str8 E2).toList) = (E1 == E2) := by rw [str8_toList, str8_toList]
  have HEE := Lib.hid hEE
  obtain ⟨eb, heb⟩ : ∃ eb, eb = (E1 == E2) := ⟨_, rfl⟩
  rw [← heb] at hinj hEE
  clear hG hs1 hs2 ho2 hb3 hb4 x0 x1 x2 x3 x4 y0 y1 y2 y3 y4 HSAME2 hb1 hb2 HEE heb
  go_upto_region 7 with fail
  have hGd := hG2.drew
  have hb1 : (eb == sm) = true := hinj
  go_region_held3 (fun w' => (w'.cell? ⟨w.heap.size, 0, none⟩ = some (.int .u8 k0) ∧ w'.cell? ⟨w.heap.size, 1, none⟩ = some (.int .u64 n0) ∧ w'.cell? ⟨w.heap.size, 2, none⟩ = some (.string s0) ∧ w'.cell? ⟨w.heap.size, 3, none⟩ = some (.slice a3 n3 c3) ∧ w'.cell? ⟨w.heap.size, 4, none⟩ = some (.slice a4 n4 c4)) ∧
      (w'.cell? ⟨w.heap.size + 1, 0, none⟩ = some (.int .u8 k1) ∧ w'.cell? ⟨w.heap.size + 1, 1, none⟩ = some (.int .u64 n1) ∧ w'.cell? ⟨w.heap.size + 1, 2, none⟩ = some (.string s1) ∧ w'.cell? ⟨w.heap.size + 1, 3, none⟩ = some (.slice b3 m3 e3) ∧ w'.cell? ⟨w.heap.size + 1, 4, none⟩ = some (.slice b4 m4 e4)) ∧
      (convert 31 9 v1).run Try.prog w' = .ok (.string (str8 E1)) w' ∧ (convert 31 9 v2).run Try.prog w' = .ok (.string (str8 E2)) w') (exact TwoB.cells (by assumption))
    (first
      | (go_at_call 20; refine (C20.out _ (by assumption)).mono ?_; rintro e wx ⟨rfl, hx⟩)
      | (go_at_call 10; refine (C10.out _ (by assumption)).mono ?_; rintro e wx ⟨rfl, hx⟩))
  all_goals
    go_wp2_with fail
    go_ret
    exact ⟨rfl, hx.bel⟩

set_option maxRecDepth 100000 in
set_option maxHeartbeats 1000000 in
theorem one_walk_lifted (os : Os) (started : os.Started) (H : Type) (enc : TypeId × Value → H) :
    ReturnsInHanded {} Try.checked os 7 .any (Rows.valueOneSpec.pre6 enc Try.prog Try.f7 Rows.valueOneRow.domain false) (Rows.valueOneSpec.post enc Try.prog Try.f7 false true false false) := by
  refine returnsInHanded_of_change_sized (C := Try.checked) own started (by kernel_rfl) Try.func7
    (ChangeSpec.witness6 (enc := enc) (C := Try.checked) false ⟨#[], #[.agg #[.int .u8 0, .int .u64 0, .string ⟨#[]⟩, .slice none 0 0, .slice none 0 0], .agg #[.int .u8 0, .int .u64 0, .string ⟨#[]⟩, .slice none 0 0, .slice none 0 0]], []⟩ 8 (by kernel_rfl) (by kernel_rfl) (by kernel_rfl) (by kernel_rfl)) ?_
  intro W base args ds gs before hval0 hW hcnd hsz0 _
  have hval : ∀ (j : Nat) t v, Try.f7.params[j]? = some t → args[j]? = some v → Value.okWide Try.prog W .any base t v := hval0
  have hsz : (DataW.weightsEach Try.prog (Try.f7.params.toList ++ Rows.valueOneSpec.plain.varTypes Try.prog) (ds ++ gs)).all (· ≤ reachBytes) = true := hsz0
  have hW' := hW
  obtain ⟨p, q, hA0, hV, rfl, hfz, hnd⟩ := hW
  have hA : DataW.TrodAll enc Try.prog W 0 (fun _ => true) true Try.f7.params.toList args.toList ds p := hA0
  rw [Try.params7] at hA hval hsz
  obtain ⟨v0, vs0, d0, ds0, p0, q0, hargs, rfl, rfl, h0, r0⟩ := trodAll_cons hA
  obtain ⟨v1, vs1, d1, ds1, p1, q1, rfl, rfl, rfl, h1, r1⟩ := trodAll_cons r0
  obtain ⟨rfl, rfl, rfl⟩ := trodAll_nil r1
  obtain rfl : args = #[v0, v1] := by cases args; simp_all
  obtain ⟨rfl, rfl⟩ := trodVars_none hV
  have k0 := h0
  have lt0 : ∀ x ∈ p0, x.block < W.heap.size := by obtain ⟨m, hm⟩ := k0; exact DataW.trod_lt m _ _ _ hm
  have k1 := h1
  have lt1 : ∀ x ∈ p1, x.block < W.heap.size := by obtain ⟨m, hm⟩ := k1; exact DataW.trod_lt m _ _ _ hm
  obtain ⟨T0, C0, rfl, sh0⟩ := open_value (hval 0 27 v0 rfl rfl) h0 hsz 0 rfl rfl
  obtain ⟨T1, C1, rfl, sh1⟩ := open_value (hval 1 27 v1 rfl rfl) h1 hsz 1 rfl rfl
  clear hA0 hval0
  refine (one_walk T0 C0 T1 C1 W sh0 sh1).mono fun e W' ⟨he, bel⟩ => ?_
  subst he
  exact ⟨_, rfl, _, _, _, [], _, [], hW', trodAll_mk1 (shut_bool Try.underlying4 _), (trodAll_cons_mk (Below.trod laidOut (by kernel_rfl) (of_decide_eq_true (by kernel_rfl)) k0 bel lt0) (trodAll_cons_mk (Below.trod laidOut (by kernel_rfl) (of_decide_eq_true (by kernel_rfl)) k1 bel lt1) trodAll_mk0)), rfl, bel.frame _, fun h => by cases h⟩

theorem valueOne_holds : Rows.ValueOneSaid :=
  OpenClaim.holds_of_wide 7 Try.f7 rfl rfl rfl rfl rfl rfl rfl ⟨rfl, rfl, rfl, rfl, rfl⟩ rfl rfl rfl rfl rfl (by kernel_rfl) Try.func7 (by kernel_rfl)
    (of_decide_eq_true (by kernel_rfl)) (by unfold Func.isWrapper; first | (rw [if_pos (by decide +kernel)]; kernel_rfl) | (rw [if_neg (by decide +kernel)]; exact ⟨rfl, rfl⟩))
    (fun os started H enc _ => one_walk_lifted os started H enc)
#print axioms valueOne_holds
end Go.Proofs.Ytaghpognjkioeaa
