/-
  For every value and every number of bytes: no beginning of the value's bytes but all of them is a value's.
  Conditions: none.
-/
import Derived.Test.YtaghpognjkioeaaValO
import Derived.Test.YtaghpognjkioeaaValQ
namespace Go.Proofs.Ytaghpognjkioeaa
open Go.ChangeShapes Go.WideShapes Go.ChangeAt Go.RowKit
open Go.ChangeMaps (open_string shut_string)
set_option linter.unusedVariables false
set_option linter.unusedSimpArgs false

theorem bytes_pos (t : Tree) : 0 < (bytesT t).length := by
  rw [bytesT_eq, List.length_append, be_length]
  omega

set_option maxRecDepth 100000 in
set_option maxHeartbeats 2000000 in
theorem cut_walk (t : Tree) (vs : List Value) (S : Nat) (w : World) (h : ShowsT w t vs) (hS : S < 65536) :
    Calls Try.prog 8 #[.agg vs.toArray, .int .u16 S] w fun e w' => e = .returned (.bool true) ∧ Below w.heap.size w w' := by
  have HSM := Lib.hid (fun w' (hw' : Below w.heap.size w w') => small_any t vs w' (h.kept hw' (Nat.le_refl _)))
  have HH := Lib.hid head_any
  have HPO := Lib.hid (fun (hc : checkT t = 0) w' (hw' : Below w.heap.size w w') => put_ok t vs w' (h.kept hw' (Nat.le_refl _)) hc)
  have HPN := Lib.hid (fun (hc : checkT t ≠ 0) w' (hw' : Below w.heap.size w w') => put_no t vs w' (h.kept hw' (Nat.le_refl _)) hc)
  have HGC := Lib.hid (fun (hc : checkT t = 0) k hk => get_cut hc k hk)
  have HGA := Lib.hid (fun v d l w h hl => get_any v d l w h hl)
  have HBL := Lib.hid (fun (hc : checkT t = 0) => bytes_le hc)
  have hpos := bytes_pos t
  obtain ⟨k0, n0, s0, a3, n3, c3, a4, n4, c4, rfl⟩ := h.cells5
  have hX := BoxV.new (v0 := .int .u8 k0) (v1 := .int .u64 n0) (v2 := .string s0) (v3 := .slice a3 n3 c3) (v4 := .slice a4 n4 c4) w
  have hBX := below_boxV w (Obj.cells #[.int .u8 k0, .int .u64 n0, .string s0, .slice a3 n3 c3, .slice a4 n4 c4] 27)
  have HX := Lib.hid hX
  have HBX := Lib.hid hBX
  generalize bytesT t = B at *
  clear h hX hBX
  go_enter Try.func8, Try.ntmps8
  go_wp2_with fail
  refine (HSM.out _ HBX.out).mono ?_
  rintro e w1 ⟨r, rfl, _, hb1⟩
  have hX1 := HX.out.kept hb1 (Nat.le_refl _)
  have hB1 := HBX.out.trans (hb1.mono HBX.out.size)
  have x0 := hX1.c0
  have x1 := hX1.c1
  have x2 := hX1.c2
  have x3 := hX1.c3
  have x4 := hX1.c4
  have HB1 := Lib.hid hB1
  clear hX1 hB1
  cases r with
  | false =>
    go_wp2_with fail
    refine (HH.out _).mono ?_
    rintro e w2 ⟨rfl, hb2⟩
    go_wp2_with fail
    go_ret
    exact ⟨rfl, HB1.out.trans (hb2.mono HB1.out.size)⟩
  | true =>
  by_cases hc : checkT t = 0
  · have HP := Lib.hid (HPO.out hc w1 HB1.out)
    have hbl := HBL.out hc
    have HG := Lib.hid (HGC.out hc)
    clear HPO HPN HGC
    go_wp2_with fail
    refine HP.out.mono ?_
    rintro e w2 ⟨v2, rfl, ho2, hb2⟩
    obtain ⟨g2, hg2, hs2⟩ := ho2.shows
    obtain ⟨A2, c2, rfl, hlc2, hcm2⟩ := ho2.form
    have hB2 := HB1.out.trans (hb2.mono HB1.out.size)
    have HB2 := Lib.hid hB2
    have hmod : (S : Int).tmod (B.length : Int) = ((S % B.length : Nat) : Int) := by rfl
    have hlt : S % B.length < B.length := Nat.mod_lt _ hpos
    have hne0 : ¬ ((B.length : Int) = 0) := by omega
    have hle : S % B.length ≤ B.length := by omega
    have hGw := HGA.out _ g2 _ w2 (hs2.head2 hle) (by rw [List.length_take]; omega)
    rw [HG.out _ hlt] at hGw
    have HGW := Lib.hid hGw
    have hS16 : IntKind.i64.wrap (S : Int) = (S : Int) := i64_id _ (by omega) (by omega)
    have hposN : ¬ B.length = 0 := by omega
    have hB0 : ((B.length : Int) == 0) = false := beq_eq_false_iff_ne.2 (by omega)
    obtain ⟨q, hq⟩ : ∃ q, q = S % B.length := ⟨_, rfl⟩
    rw [← hq] at hmod hlt hle HGW
    have hqI : (q : Int) ≤ (c2 : Int) := by omega
    have hqI0 : (0 : Int) ≤ (q : Int) := by omega
    have Hq := Lib.hid hq
    clear hGw hs2 ho2 hg2 hB2 x0 x1 x2 x3 x4 hq
    go_wp2_with fail
    refine HGW.out.mono ?_
    rintro e w3 ⟨hb3, rfl⟩
    have hB3 := HB2.out.trans (hb3.mono HB2.out.size)
    have hbA : Below w3.heap.size w3 (w3.alloc (Obj.cells #[.int .u8 0, .int .u64 0, .string ⟨#[]⟩, .slice none 0 0, .slice none 0 0] 27)) := below_boxV _ _
    have hB4 := hB3.trans (hbA.mono hB3.size)
    have HB4 := Lib.hid hB4
    clear hB3 hB4 hbA
    go_wp2_with fail
    refine (HH.out _).mono ?_
    rintro e w4 ⟨rfl, hb4⟩
    go_wp2_with fail
    go_ret
    exact ⟨rfl, HB4.out.trans (hb4.mono HB4.out.size)⟩
  · have HP := Lib.hid (HPN.out hc w1 HB1.out)
    clear HPO HPN HGC HBL
    have hcI : ((checkT t : Int) != 0) = true := by simp; omega
    generalize checkT t = C at *
    go_wp2_with fail
    refine HP.out.mono ?_
    rintro e w2 ⟨rfl, hb2⟩
    have hB2 := HB1.out.trans (hb2.mono HB1.out.size)
    go_wp2_with fail
    refine (HH.out _).mono ?_
    rintro e w4 ⟨rfl, hb4⟩
    go_wp2_with fail
    go_ret
    exact ⟨rfl, hB2.trans (hb4.mono hB2.size)⟩

set_option maxRecDepth 100000 in
theorem cut_walk_lifted (os : Os) (started : os.Started) (H : Type) (enc : TypeId × Value → H) :
    ReturnsInHanded {} Try.checked os 8 .any (Rows.valueCutSpec.pre6 enc Try.prog Try.f8 Rows.valueCutRow.domain false) (Rows.valueCutSpec.post enc Try.prog Try.f8 false true false false) := by
  refine returnsInHanded_of_change_sized (C := Try.checked) own started (by kernel_rfl) Try.func8
    (ChangeSpec.witness6 (enc := enc) (C := Try.checked) false ⟨#[], #[.agg #[.int .u8 0, .int .u64 0, .string ⟨#[]⟩, .slice none 0 0, .slice none 0 0], .int .u16 0], []⟩ 8 (by kernel_rfl) (by kernel_rfl) (by kernel_rfl) (by kernel_rfl)) ?_
  intro W base args ds gs before hval0 hW hcnd hsz0 _
  have hval : ∀ (j : Nat) t v, Try.f8.params[j]? = some t → args[j]? = some v → Value.okWide Try.prog W .any base t v := hval0
  have hsz : (DataW.weightsEach Try.prog (Try.f8.params.toList ++ Rows.valueCutSpec.plain.varTypes Try.prog) (ds ++ gs)).all (· ≤ reachBytes) = true := hsz0
  have hW' := hW
  obtain ⟨p, q, hA0, hV, rfl, hfz, hnd⟩ := hW
  have hA : DataW.TrodAll enc Try.prog W 0 (fun _ => true) true Try.f8.params.toList args.toList ds p := hA0
  rw [Try.params8] at hA hval hsz
  obtain ⟨v0, vs0, d0, ds0, p0, q0, hargs, rfl, rfl, h0, r0⟩ := trodAll_cons hA
  obtain ⟨v1, vs1, d1, ds1, p1, q1, rfl, rfl, rfl, h1, r1⟩ := trodAll_cons r0
  obtain ⟨rfl, rfl, rfl⟩ := trodAll_nil r1
  obtain rfl : args = #[v0, v1] := by cases args; simp_all
  obtain ⟨rfl, rfl⟩ := trodVars_none hV
  have k0 := h0
  have lt0 : ∀ x ∈ p0, x.block < W.heap.size := by obtain ⟨m, hm⟩ := k0; exact DataW.trod_lt m _ _ _ hm
  have k1 := h1
  have lt1 : ∀ x ∈ p1, x.block < W.heap.size := by obtain ⟨m, hm⟩ := k1; exact DataW.trod_lt m _ _ _ hm
  obtain ⟨T0, C0, rfl, sh0⟩ := open_value (hval 0 27 v0 rfl rfl) h0 hsz 0 rfl rfl
  obtain ⟨s1, rfl, rfl, rfl, ws1⟩ := open_int Try.underlying48 (hval 1 48 v1 rfl rfl) h1
  obtain ⟨s10, s11⟩ := u16_range ws1
  obtain ⟨S1, rfl⟩ := Int.eq_ofNat_of_zero_le s10
  clear hA0 hval0
  refine (cut_walk T0 C0 S1 W sh0 (by omega)).mono fun e W' ⟨he, bel⟩ => ?_
  subst he
  exact ⟨_, rfl, _, _, _, [], _, [], hW', trodAll_mk1 (shut_bool Try.underlying4 _), (trodAll_cons_mk (Below.trod laidOut (by kernel_rfl) (of_decide_eq_true (by kernel_rfl)) k0 bel lt0) (trodAll_cons_mk (Below.trod laidOut (by kernel_rfl) (of_decide_eq_true (by kernel_rfl)) k1 bel lt1) trodAll_mk0)), rfl, bel.frame _, fun h => by cases h⟩

theorem valueCut_holds : Rows.ValueCutSaid :=
  OpenClaim.holds_of_wide 8 Try.f8 rfl rfl rfl rfl rfl rfl rfl ⟨rfl, rfl, rfl, rfl, rfl⟩ rfl rfl rfl rfl rfl (by kernel_rfl) Try.func8 (by kernel_rfl)
    (of_decide_eq_true (by kernel_rfl)) (by unfold Func.isWrapper; first | (rw [if_pos (by decide +kernel)]; kernel_rfl) | (rw [if_neg (by decide +kernel)]; exact ⟨rfl, rfl⟩))
    (fun os started H enc _ => cut_walk_lifted os started H enc)
#print axioms valueCut_holds
end Go.Proofs.Ytaghpognjkioeaa
