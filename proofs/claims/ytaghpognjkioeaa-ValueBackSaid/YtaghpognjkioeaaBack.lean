/-
  For every value and all bytes of at most 10000: Get of the value's bytes, whatever stands behind, is the value; and what Get tells of any bytes is put as the bytes that it took.
  Conditions: none.
-/
import Derived.Test.YtaghpognjkioeaaOne
import Derived.Deep.CutRange
import Derived.Deep.CutBlock
import Derived.Deep.DeepCutAuto
namespace Go.Proofs.Ytaghpognjkioeaa
open Go.ChangeShapes Go.WideShapes Go.ChangeAt Go.RowKit
open Go.ChangeMaps (open_string shut_string)
set_option linter.unusedVariables false
set_option linter.unusedSimpArgs false

/-- A value in a box of the call's own, and two rows of bytes. -/
structure OneB (w0 : World) (p : Nat) (a0 a1 a2 a3 a4 : Value) (v1 : Value) (E1 : List UInt8) (v2 : Value) (E2 : List UInt8) (w : World) : Prop where
  a : BoxV w p a0 a1 a2 a3 a4
  s1 : ∃ g, Shows w g v1 E1
  s2 : ∃ g, Shows w g v2 E2
  bel : Below w0.heap.size w0 w
section
variable {w0 w w' : World} {p : Nat} {a0 a1 a2 a3 a4 : Value} {v1 : Value} {E1 : List UInt8} {v2 : Value} {E2 : List UInt8}
theorem OneB.step (h : OneB w0 p a0 a1 a2 a3 a4 v1 E1 v2 E2 w) (hb : Below w.heap.size w w') : OneB w0 p a0 a1 a2 a3 a4 v1 E1 v2 E2 w' :=
  ⟨h.a.kept hb (Nat.le_refl _), shows_below h.s1 hb, shows_below h.s2 hb, h.bel.trans (hb.mono h.bel.size)⟩
theorem OneB.drew (h : OneB w0 p a0 a1 a2 a3 a4 v1 E1 v2 E2 w) : OneB w0 p a0 a1 a2 a3 a4 v1 E1 v2 E2 w.drew := ⟨h.a, h.s1, h.s2, below_drew1 h.bel⟩
theorem OneB.calls {f : FuncId} {args : Array Value} {r : Ending} (hc : ∀ w, OneB w0 p a0 a1 a2 a3 a4 v1 E1 v2 E2 w → Calls Try.prog f args w fun e w' => e = r ∧ Below w.heap.size w w') :
    ∀ w, OneB w0 p a0 a1 a2 a3 a4 v1 E1 v2 E2 w → Calls Try.prog f args w fun e w' => e = r ∧ OneB w0 p a0 a1 a2 a3 a4 v1 E1 v2 E2 w' :=
  fun w h => (hc w h).mono fun e w' he => ⟨he.1, h.step he.2⟩
theorem OneB.cells (h : OneB w0 p a0 a1 a2 a3 a4 v1 E1 v2 E2 w) : (w.cell? ⟨p, 0, none⟩ = some a0 ∧ w.cell? ⟨p, 1, none⟩ = some a1 ∧ w.cell? ⟨p, 2, none⟩ = some a2 ∧ w.cell? ⟨p, 3, none⟩ = some a3 ∧ w.cell? ⟨p, 4, none⟩ = some a4) ∧
    (convert 31 9 v1).run Try.prog w = .ok (.string (str8 E1)) w ∧ (convert 31 9 v2).run Try.prog w = .ok (.string (str8 E2)) w := by
  obtain ⟨g1, h1⟩ := h.s1
  obtain ⟨g2, h2⟩ := h.s2
  exact ⟨⟨h.a.c0, h.a.c1, h.a.c2, h.a.c3, h.a.c4⟩, conv_at h1, conv_at h2⟩
end

def t0 : Tree := .node 0 0 ⟨#[]⟩ [] []

/-- What Put tells: the value's bytes, or an error. -/
def PutCut (t : Tree) (w w1 : World) (x y : Value) (wx : World) : Prop :=
  Below w.heap.size w wx ∧ ((checkT t = 0 ∧ y = .int .i64 0 ∧ Own 5 wx w1.heap.size x (bytesT t)) ∨ ∃ C : Nat, y = .int .i64 C ∧ C ≠ 0)

set_option maxRecDepth 100000 in
set_option maxHeartbeats 4000000 in
theorem back_walk (t : Tree) (vs : List Value) (A : Option Addr) (c d : Nat) (b : List UInt8) (w : World) (h : ShowsT w t vs) (hb : Shows w d (.slice A b.length c) b) (hbl : b.length ≤ 140737488351232) :
    Calls Try.prog 6 #[.agg vs.toArray, .slice A b.length c] w fun e w' => e = .returned (.bool true) ∧ Below w.heap.size w w' := by
  have HSM := Lib.hid (fun w' (hw' : Below w.heap.size w w') => small_any t vs w' (h.kept hw' (Nat.le_refl _)))
  have HH := Lib.hid head_any
  have HPO := Lib.hid (fun (hc : checkT t = 0) w' (hw' : Below w.heap.size w w') => put_ok t vs w' (h.kept hw' (Nat.le_refl _)) hc)
  have HPN := Lib.hid (fun (hc : checkT t ≠ 0) w' (hw' : Below w.heap.size w w') => put_no t vs w' (h.kept hw' (Nat.le_refl _)) hc)
  have HBB := Lib.hid (fun w' (hw' : Below w.heap.size w w') => (hb.keep hw'.size (fun hp => hw'.block d (hb.lt hp)) : Shows w' d (.slice A b.length c) b))
  have HGB := Lib.hid (fun w' (hw' : Below w.heap.size w w') => get_any (.slice A b.length c) d b w' (hb.keep hw'.size (fun hp => hw'.block d (hb.lt hp))) hbl)
  have HGA := Lib.hid (fun v d l w h hl => get_any v d l w h hl)
  have HGP := Lib.hid (fun (hc : checkT t = 0) r => get_put hc r)
  have HBL := Lib.hid (fun (hc : checkT t = 0) => bytes_le hc)
  have hsame : ∀ (hc : cntT t ≤ 1000000) (w' : World), Below w.heap.size w w' → ∀ (vb : List Value), ShowsT w' t vb → Calls Try.prog 20 #[.agg vs.toArray, .agg vb.toArray] w' fun e w'' => e = .returned (.bool true) ∧ Below w'.heap.size w' w'' := fun hc w' hw' vb hvb => by
    have := same_any t t vs vb w' (h.kept hw' (Nat.le_refl _)) hvb hc
    rw [sameT_refl] at this
    exact this
  have HSAME := Lib.hid hsame
  have hs0 : ∀ (w' : World), Calls Try.prog 20 #[.agg #[.int .u8 0, .int .u64 0, .string ⟨#[]⟩, .slice none 0 0, .slice none 0 0], .agg #[.int .u8 0, .int .u64 0, .string ⟨#[]⟩, .slice none 0 0, .slice none 0 0]] w' fun e w'' => e = .returned (.bool true) ∧ Below w'.heap.size w' w'' := fun w' => by
    have := same_any t0 t0 _ _ w' (shows_leaf w' 0 0 (by decide) (by decide)) (shows_leaf w' 0 0 (by decide) (by decide)) (by decide)
    rw [sameT_refl] at this
    exact this
  have HS0 := Lib.hid hs0
  obtain ⟨k0, n0, s0, a3, n3, c3, a4, n4, c4, rfl⟩ := h.cells5
  have hX := BoxV.new (v0 := .int .u8 k0) (v1 := .int .u64 n0) (v2 := .string s0) (v3 := .slice a3 n3 c3) (v4 := .slice a4 n4 c4) w
  have hBX := below_boxV w (Obj.cells #[.int .u8 k0, .int .u64 n0, .string s0, .slice a3 n3 c3, .slice a4 n4 c4] 27)
  have HX := Lib.hid hX
  have HBX := Lib.hid hBX
  have hbc := hb.lens.2.1
  clear h hX hBX hb hsame hs0
  go_enter Try.func6, Try.ntmps6
  go_wp2_with fail
  refine (HSM.out _ HBX.out).mono ?_
  rintro e w1 ⟨r, rfl, hr, hb1⟩
  have hX1 := HX.out.kept hb1 (Nat.le_refl _)
  have hB1 := HBX.out.trans (hb1.mono HBX.out.size)
  have x0 := hX1.c0
  have x1 := hX1.c1
  have x2 := hX1.c2
  have x3 := hX1.c3
  have x4 := hX1.c4
  have HX1 := Lib.hid hX1
  have HB1 := Lib.hid hB1
  clear hX1 hB1
  cases r with
  | false =>
    go_wp2_with fail
    refine (HH.out _).mono ?_
    rintro e w2 ⟨rfl, hb2⟩
    go_wp2_with fail
    go_ret
    exact ⟨rfl, HB1.out.trans (hb2.mono HB1.out.size)⟩
  | true =>
  have hcnt := (hr rfl).1
  clear hr
  by_cases hlen : b.length ≤ 10000
  case neg =>
    have hlI : (10000 : Int) < (b.length : Int) := by omega
    go_wp2_with fail
    refine (HH.out _).mono ?_
    rintro e w2 ⟨rfl, hb2⟩
    go_wp2_with fail
    go_ret
    exact ⟨rfl, HB1.out.trans (hb2.mono HB1.out.size)⟩
  have hlI : ¬ (10000 : Int) < (b.length : Int) := by omega
  have HSAME2 := Lib.hid (HSAME.out (by omega))
  clear HSAME hcnt
  go_upto_region 3 with fail
  go_cut [5, 6] (fun x y wx => PutCut t w w1 x y wx ∧ BoxV wx w.heap.size (.int .u8 k0) (.int .u64 n0) (.string s0) (.slice a3 n3 c3) (.slice a4 n4 c4))
  case first =>
    by_cases hc : checkT t = 0
    · have HP := Lib.hid (HPO.out hc _ HB1.out)
      have HC := Lib.hid hc
      clear HPO HPN hc
      go_wp2_with fail
      refine HP.out.mono ?_
      rintro e w2 ⟨v2, rfl, ho2, hb2⟩
      have HO := Lib.hid ho2
      clear ho2
      go_wp2_with fail
      go_meet
      exact ⟨⟨HB1.out.trans (hb2.mono HB1.out.size), .inl ⟨HC.out, rfl, HO.out⟩⟩, HX1.out.kept hb2 (Nat.le_refl _)⟩
    · have HP := Lib.hid (HPN.out hc _ HB1.out)
      have HC := Lib.hid hc
      clear HPO HPN hc
      generalize checkT t = C at *
      go_wp2_with fail
      refine HP.out.mono ?_
      rintro e w2 ⟨rfl, hb2⟩
      go_wp2_with fail
      go_meet
      exact ⟨⟨HB1.out.trans (hb2.mono HB1.out.size), .inr ⟨_, rfl, HC.out⟩⟩, HX1.out.kept hb2 (Nat.le_refl _)⟩
  case rest =>
    rename World => wc
    obtain ⟨⟨hBc, hor⟩, hXc⟩ := hcut
    rename ∀ (a : Act) (w : World), Code.wp _ _ _ _ _ → _ => hK
    refine hK _ _ ?_
    clear hK
    go_step
    go_cut [7, 8, 9] (fun _ _ _ wx => Below w.heap.size w wx)
    case first =>
      rcases hor with ⟨hc, rfl, ho⟩ | ⟨C, rfl, hC⟩
      · have hgp := HGP.out hc b
        have hBL := HBL.out hc
        clear HGP HBL HGB
        generalize bytesT t = B at *
        obtain ⟨g, _, hs⟩ := ho.shows
        obtain ⟨A2, c2, rfl, hlc2, hcm2⟩ := ho.form
        have HGP := Lib.hid hgp
        have HBc := Lib.hid hBc
        have HXc := Lib.hid hXc
        have hne : ((B.length : Int) != (B.length : Int)) = false := by simp
        clear ho hgp hBc hXc x0 x1 x2 x3 x4 hc
        go_wp2_with (first
          | (at_builtin
             refine wpList_append8 _ rfl (.const (.slice none 0 0)) (.tmp 32) 31 rfl wc.heap.size 5 Try.underlying31 info5 (.slice none 0 0) [] rfl (Own.nil_ _ _ _) g (.slice A2 B.length c2) B rfl hs (by simp; omega) (Nat.le_refl _) ?_
             intro v3 w3 ho3 hg3
             have hb3 : Below wc.heap.size wc w3 := (Below.refl _ _).grown hg3 (Nat.le_refl _) (fun k hk => by cases hk)
             have hz3 := hb3.size
             have hbs3 := HBB.out w3 (HBc.out.trans (hb3.mono HBc.out.size)))
          | (at_builtin
             refine wpList_append8 _ rfl (.tmp 33) (.tmp 34) 31 rfl wc.heap.size 5 Try.underlying31 info5 v3 _ rfl ho3 d (.slice A b.length c) b rfl hbs3 (by simp; omega) hz3 ?_
             intro v4 w4 ho4 hg4
             have hb4 : Below wc.heap.size wc w4 := hb3.grown hg4 hz3 (fun k hk => (ho3.block k hk).1)
             rw [List.nil_append] at ho4
             obtain ⟨g4, hg40, hs4⟩ := ho4.shows))
        have hG := HGA.out v4 g4 (B ++ b) w4 hs4 (by simp; omega)
        rw [HGP.out] at hG
        refine hG.mono ?_
        rintro e w5 ⟨hb5, vs5, rfl, hsh5⟩
        have hT5 : ShowsT w5 t vs5 := hsh5.sub (low_out _ _)
        obtain ⟨j0, m0, r0, b3, q3, f3, b4, q4, f4, rfl⟩ := hT5.cells5
        have hA5 : Below w5.heap.size w5 (w5.alloc (Obj.cells #[.int .u8 j0, .int .u64 m0, .string r0, .slice b3 q3 f3, .slice b4 q4 f4] 27)) := below_boxV _ _
        have hX5 := (HXc.out.kept hb4 (Nat.le_refl _)).kept hb5 (Nat.le_refl _)
        have hX6 := hX5.kept hA5 (Nat.le_refl _)
        have hY6 := BoxV.new (v0 := .int .u8 j0) (v1 := .int .u64 m0) (v2 := .string r0) (v3 := .slice b3 q3 f3) (v4 := .slice b4 q4 f4) w5
        have hB5 := (HBc.out.trans (hb4.mono HBc.out.size))
        have hB5 := (hB5.trans (hb5.mono hB5.size))
        have hB6 := hB5.trans (hA5.mono hB5.size)
        have HS6 := Lib.hid (HSAME2.out _ hB6 _ (hT5.kept hA5 (Nat.le_refl _)))
        have HB6 := Lib.hid hB6
        have x0 := hX6.c0
        have x1 := hX6.c1
        have x2 := hX6.c2
        have x3 := hX6.c3
        have x4 := hX6.c4
        have y0 := hY6.c0
        have y1 := hY6.c1
        have y2 := hY6.c2
        have y3 := hY6.c3
        have y4 := hY6.c4
        clear hG hT5 hsh5 hA5 hX5 hX6 hY6 hB5 hB6 hs4 ho4 hs ho3 hbs3 hb3 hb4 hg3 hg4
        go_wp2_with fail
        refine HS6.out.mono ?_
        rintro e w7 ⟨rfl, hb7⟩
        go_wp2_with fail
        go_meet
        exact HB6.out.trans (hb7.mono HB6.out.size)
      · have hCI : ((C : Int) == 0) = false := by simp; omega
        have HBc := Lib.hid hBc
        clear hBc hXc x0 x1 x2 x3 x4
        go_wp2_with fail
        go_meet
        exact HBc.out
    case rest =>
      clear hor hBc hXc x0 x1 x2 x3 x4 HX1 HB1 HPO HPN HSAME2 HGP HBL HX HBX
      rename World => wd
      have hBd : Below w.heap.size w wd := hcut
      have hG := HGB.out _ hBd
      have HBd := Lib.hid hBd
      clear hBd hcut HGB HSM hb1
      cases hg : getP b with
      | none =>
        rw [hg] at hG
        clear hg
        go_wp2_with fail
        refine hG.mono ?_
        rintro e w2 ⟨hb2, rfl⟩
        have hA2 : Below w2.heap.size w2 (w2.alloc (Obj.cells #[.int .u8 0, .int .u64 0, .string ⟨#[]⟩, .slice none 0 0, .slice none 0 0] 27)) := below_boxV _ _
        have hB2 := HBd.out.trans (hb2.mono HBd.out.size)
        have HB3 := Lib.hid (hB2.trans (hA2.mono hB2.size))
        have hY := BoxV.new (v0 := .int .u8 0) (v1 := .int .u64 0) (v2 := .string ⟨#[]⟩) (v3 := .slice none 0 0) (v4 := .slice none 0 0) w2
        have y0 := hY.c0
        have y1 := hY.c1
        have y2 := hY.c2
        have y3 := hY.c3
        have y4 := hY.c4
        clear hY hA2 hB2 hG
        go_wp2_with fail
        refine (HS0.out _).mono ?_
        rintro e w4 ⟨rfl, hb4⟩
        have hB4 := Lib.hid (HB3.out.trans (hb4.mono HB3.out.size))
        go_wp2_with fail
        refine (HH.out _).mono ?_
        rintro e w5 ⟨rfl, hb5⟩
        go_wp2_with fail
        go_ret
        exact ⟨rfl, hB4.out.trans (hb5.mono hB4.out.size)⟩
      | some p =>
        obtain ⟨u, n⟩ := p
        obtain ⟨hcu, hn, hnl, r, hbr⟩ := put_get hg
        have htk : b.take n = bytesT u := by rw [hbr, hn, List.take_left]
        rw [hg] at hG
        clear hg hbr hn HS0 HGA
        go_wp2_with fail
        refine hG.mono ?_
        rintro e w2 ⟨hb2, vs2, rfl, hsh2⟩
        have hT2 : ShowsT w2 u vs2 := hsh2.sub (low_out _ _)
        obtain ⟨j0, m0, r0, b3, q3, f3, b4, q4, f4, rfl⟩ := hT2.cells5
        have hA2 : Below w2.heap.size w2 (w2.alloc (Obj.cells #[.int .u8 j0, .int .u64 m0, .string r0, .slice b3 q3 f3, .slice b4 q4 f4] 27)) := below_boxV _ _
        have hB2 := HBd.out.trans (hb2.mono HBd.out.size)
        have hB3 := hB2.trans (hA2.mono hB2.size)
        have hT3 := hT2.kept hA2 (Nat.le_refl _)
        have hY := BoxV.new (v0 := .int .u8 j0) (v1 := .int .u64 m0) (v2 := .string r0) (v3 := .slice b3 q3 f3) (v4 := .slice b4 q4 f4) w2
        have HP := Lib.hid (put_ok u _ _ hT3 hcu)
        have hck : ∀ w', Below (w2.alloc (Obj.cells #[.int .u8 j0, .int .u64 m0, .string r0, .slice b3 q3 f3, .slice b4 q4 f4] 27)).heap.size (w2.alloc (Obj.cells #[.int .u8 j0, .int .u64 m0, .string r0, .slice b3 q3 f3, .slice b4 q4 f4] 27)) w' →
            Calls Try.prog 14 #[.agg #[.int .u8 j0, .int .u64 m0, .string r0, .slice b3 q3 f3, .slice b4 q4 f4]] w' fun e w'' => e = .returned (.int .i64 0) ∧ Below w'.heap.size w' w'' := fun w' hw' => by
          have := check_any u _ w' (hT3.kept hw' (Nat.le_refl _))
          rw [hcu] at this
          exact this
        have HCK := Lib.hid hck
        have HB3 := Lib.hid hB3
        have HY := Lib.hid hY
        have y0 := hY.c0
        have y1 := hY.c1
        have y2 := hY.c2
        have y3 := hY.c3
        have y4 := hY.c4
        have HTK := Lib.hid htk
        clear hY hA2 hB2 hB3 hG hT2 hT3 hsh2 hck hcu htk
        go_wp2_with fail
        generalize bytesT u = B at *
        generalize hW3 : w2.alloc (Obj.cells #[.int .u8 j0, .int .u64 m0, .string r0, .slice b3 q3 f3, .slice b4 q4 f4] 27) = w3 at *
        have hW3 := Lib.hid hW3
        refine HP.out.mono ?_
        rintro e w4 ⟨v4, rfl, ho4, hb4⟩
        obtain ⟨g4, _, hs4⟩ := ho4.shows
        have hs2 := (HBB.out w4 (HB3.out.trans (hb4.mono HB3.out.size))).head2 hnl
        rw [HTK.out] at hs2
        have hG2 : OneB w3 w2.heap.size (.int .u8 j0) (.int .u64 m0) (.string r0) (.slice b3 q3 f3) (.slice b4 q4 f4) v4 B (.slice A n c) B w4 := ⟨HY.out.kept hb4 (by rw [← hW3.out]; simp), ⟨g4, hs4⟩, ⟨d, hs2⟩, hb4⟩
        have C14 := Lib.hid (OneB.calls (w0 := w3) (p := w2.heap.size) (a0 := .int .u8 j0) (a1 := .int .u64 m0) (a2 := .string r0) (a3 := .slice b3 q3 f3) (a4 := .slice b4 q4 f4) (v1 := v4) (E1 := B) (v2 := .slice A n c) (E2 := B) (fun w' h => HCK.out w' h.bel))
        have C10 := Lib.hid (OneB.calls (w0 := w3) (p := w2.heap.size) (a0 := .int .u8 j0) (a1 := .int .u64 m0) (a2 := .string r0) (a3 := .slice b3 q3 f3) (a4 := .slice b4 q4 f4) (v1 := v4) (E1 := B) (v2 := .slice A n c) (E2 := B) (fun w' _ => HH.out w'))
        have hnI : ((n : Int) ≤ (b.length : Int)) := by omega
        have hncI : ((n : Int) ≤ (c : Int)) := by omega
        have hn0 : ((0 : Int) ≤ (n : Int)) := by omega
        clear y0 y1 y2 y3 y4 ho4 hs4 hs2 hb4 HCK HP HBB hb2 HTK
        go_upto_region 12 with fail
        have hGd := hG2.drew
        go_region_held3 (fun w' => (w'.cell? ⟨w2.heap.size, 0, none⟩ = some (.int .u8 j0) ∧ w'.cell? ⟨w2.heap.size, 1, none⟩ = some (.int .u64 m0) ∧ w'.cell? ⟨w2.heap.size, 2, none⟩ = some (.string r0) ∧ w'.cell? ⟨w2.heap.size, 3, none⟩ = some (.slice b3 q3 f3) ∧ w'.cell? ⟨w2.heap.size, 4, none⟩ = some (.slice b4 q4 f4)) ∧
            (convert 31 9 v4).run Try.prog w' = .ok (.string (str8 B)) w' ∧ (convert 31 9 (.slice A n c)).run Try.prog w' = .ok (.string (str8 B)) w') (exact OneB.cells (by assumption))
          (first
            | (go_at_call 14; refine (C14.out _ (by assumption)).mono ?_; rintro e wx ⟨rfl, hx⟩)
            | (go_at_call 10; refine (C10.out _ (by assumption)).mono ?_; rintro e wx ⟨rfl, hx⟩))
        all_goals
          go_wp2_with fail
          go_ret
          exact ⟨rfl, HB3.out.trans (hx.bel.mono HB3.out.size)⟩

set_option maxRecDepth 100000 in
set_option maxHeartbeats 1000000 in
theorem back_walk_lifted (os : Os) (started : os.Started) (H : Type) (enc : TypeId × Value → H) :
    ReturnsInHanded {} Try.checked os 6 .any (Rows.valueBackSpec.pre6 enc Try.prog Try.f6 Rows.valueBackRow.domain false) (Rows.valueBackSpec.post enc Try.prog Try.f6 false true false false) := by
  refine returnsInHanded_of_change_sized (C := Try.checked) own started (by kernel_rfl) Try.func6
    (ChangeSpec.witness6 (enc := enc) (C := Try.checked) false ⟨#[], #[.agg #[.int .u8 0, .int .u64 0, .string ⟨#[]⟩, .slice none 0 0, .slice none 0 0], .slice none 0 0], []⟩ 8 (by kernel_rfl) (by kernel_rfl) (by kernel_rfl) (by kernel_rfl)) ?_
  intro W base args ds gs before hval0 hW hcnd hsz0 _
  have hval : ∀ (j : Nat) t v, Try.f6.params[j]? = some t → args[j]? = some v → Value.okWide Try.prog W .any base t v := hval0
  have hsz : (DataW.weightsEach Try.prog (Try.f6.params.toList ++ Rows.valueBackSpec.plain.varTypes Try.prog) (ds ++ gs)).all (· ≤ reachBytes) = true := hsz0
  have hW' := hW
  obtain ⟨p, q, hA0, hV, rfl, hfz, hnd⟩ := hW
  have hA : DataW.TrodAll enc Try.prog W 0 (fun _ => true) true Try.f6.params.toList args.toList ds p := hA0
  rw [Try.params6] at hA hval hsz
  obtain ⟨v0, vs0, d0, ds0, p0, q0, hargs, rfl, rfl, h0, r0⟩ := trodAll_cons hA
  obtain ⟨v1, vs1, d1, ds1, p1, q1, rfl, rfl, rfl, h1, r1⟩ := trodAll_cons r0
  obtain ⟨rfl, rfl, rfl⟩ := trodAll_nil r1
  obtain rfl : args = #[v0, v1] := by cases args; simp_all
  obtain ⟨rfl, rfl⟩ := trodVars_none hV
  have k0 := h0
  have lt0 : ∀ x ∈ p0, x.block < W.heap.size := by obtain ⟨m, hm⟩ := k0; exact DataW.trod_lt m _ _ _ hm
  have k1 := h1
  have lt1 : ∀ x ∈ p1, x.block < W.heap.size := by obtain ⟨m, hm⟩ := k1; exact DataW.trod_lt m _ _ _ hm
  obtain ⟨T0, C0, rfl, sh0⟩ := open_value (hval 0 27 v0 rfl rfl) h0 hsz 0 rfl rfl
  obtain ⟨A1, c1, b1, L1, rfl, sh1, l1⟩ := open_bytes Try.underlying31 Try.underlying5 (by kernel_rfl) bytes5 (hval 1 31 v1 rfl rfl) h1 hsz 1 rfl rfl
  clear hA0 hval0
  refine (back_walk T0 C0 A1 c1 b1 L1 W sh0 sh1 (by omega)).mono fun e W' ⟨he, bel⟩ => ?_
  subst he
  exact ⟨_, rfl, _, _, _, [], _, [], hW', trodAll_mk1 (shut_bool Try.underlying4 _), (trodAll_cons_mk (Below.trod laidOut (by kernel_rfl) (of_decide_eq_true (by kernel_rfl)) k0 bel lt0) (trodAll_cons_mk (Below.trod laidOut (by kernel_rfl) (of_decide_eq_true (by kernel_rfl)) k1 bel lt1) trodAll_mk0)), rfl, bel.frame _, fun h => by cases h⟩

theorem valueBack_holds : Rows.ValueBackSaid :=
  OpenClaim.holds_of_wide 6 Try.f6 rfl rfl rfl rfl rfl rfl rfl ⟨rfl, rfl, rfl, rfl, rfl⟩ rfl rfl rfl rfl rfl (by kernel_rfl) Try.func6 (by kernel_rfl)
    (of_decide_eq_true (by kernel_rfl)) (by unfold Func.isWrapper; first | (rw [if_pos (by decide +kernel)]; kernel_rfl) | (rw [if_neg (by decide +kernel)]; exact ⟨rfl, rfl⟩))
    (fun os started H enc _ => back_walk_lifted os started H enc)
#print axioms valueBack_holds
end Go.Proofs.Ytaghpognjkioeaa
