/-
  For all bytes: the program's Get tells the value, the number of bytes and the error that the document's Get tells.
  Conditions: none.
-/
import Derived.Test.YtnafibnhmhbfiaaVgDZ
import Derived.Test.YtnafibnhmhbfiaaValOZ
namespace Go.Proofs.Ytnafibnhmhbfiaa
open Go.ChangeShapes Go.WideShapes Go.ChangeAt Go.RowKit
open Go.ChangeMaps (open_string shut_string)
set_option linter.unusedVariables false
set_option linter.unusedSimpArgs false

/-- What a Get hands back: a value, how many bytes it takes, an error. -/
def ansG (r : Option (Tree × Nat)) : Tree × Nat × Nat :=
  match r with
  | none => (.node 0 0 ⟨#[]⟩ [] [], 0, 5)
  | some (t, n) => (t, n, 0)
theorem GetSaid.ans {l : List UInt8} {w w' : World} {r : Option (Tree × Nat)} {e : Ending} (h : GetSaid l w r e w') :
    ∃ x : Cell5, e = .returned (.tuple #[.agg x.vs.toArray, .int .i64 (ansG r).2.1, .int .i64 (ansG r).2.2]) ∧ ShowsT w' (ansG r).1 x.vs ∧ Below w.heap.size w w' := by
  obtain ⟨hb, h⟩ := h
  cases r with
  | none => exact ⟨⟨0, 0, ⟨#[]⟩, none, 0, 0, none, 0, 0⟩, h.trans rfl, leaf_shows (by decide) (by decide) (by decide), hb⟩
  | some p =>
    obtain ⟨t, n⟩ := p
    obtain ⟨vs, he, hs⟩ := h
    obtain ⟨x, rfl⟩ := hs.cell5
    exact ⟨x, he, hs.sub (low_out _ _), hb⟩

set_option maxRecDepth 100000 in
set_option maxHeartbeats 4000000 in
theorem vgets_walk (A : Option Addr) (c d : Nat) (b : List UInt8) (w : World) (hb : Shows w d (.slice A b.length c) b) (hl : b.length ≤ 140737488351232) :
    Calls Try.prog 8 #[.slice A b.length c] w fun e w' => e = .returned (.bool true) ∧ Below w.heap.size w w' := by
  have HH := Lib.hid head_any
  have HG := Lib.hid (get_any (.slice A b.length c) d b w hb hl)
  have HQ := Lib.hid (fun (hs : b.length ≤ 20000) w' (hw' : Below w.heap.size w w') => rget_any (.slice A b.length c) d b w' (hb.keep hw'.size (fun hp => hw'.block d (hb.lt hp))) hs)
  obtain ⟨r, hr⟩ : ∃ r, r = getP b := ⟨_, rfl⟩
  rw [← hr] at HG HQ
  clear hb hr
  by_cases hlen : b.length ≤ 10000
  case neg =>
    have hlI : (10000 : Int) < (b.length : Int) := by omega
    go_enter Try.func8, Try.ntmps8
    go_wp2_with fail
    refine (HH.out _).mono ?_
    rintro e w2 ⟨rfl, hb2⟩
    go_wp2_with fail
    go_ret
    exact ⟨rfl, hb2⟩
  have hlI : ¬ (10000 : Int) < (b.length : Int) := by omega
  have HQ2 := Lib.hid (HQ.out (by omega))
  clear HQ
  go_enter Try.func8, Try.ntmps8
  go_wp2_with fail
  refine HG.out.mono ?_
  rintro e w1 h1
  obtain ⟨⟨k1, n1, s1, a1, b1, c1, d1, e1, f1⟩, rfl, hs1, hb1⟩ := h1.ans
  simp only [Cell5.vs] at hs1 ⊢
  clear h1
  go_upto_region 4 with fail
  obtain ⟨W2, hW2⟩ : ∃ W2, W2 = w1.alloc (Obj.cells #[.int .u8 k1, .int .u64 n1, .string s1, .slice a1 b1 c1, .slice d1 e1 f1] 27) := ⟨_, rfl⟩
  have hbA : Below w1.heap.size w1 W2 := by rw [hW2]; exact below_boxV _ _
  have hX2 : BoxV W2 w1.heap.size (.int .u8 k1) (.int .u64 n1) (.string s1) (.slice a1 b1 c1) (.slice d1 e1 f1) := by rw [hW2]; exact BoxV.new w1
  have hB2 := hb1.trans (hbA.mono hb1.size)
  have hs2 := hs1.kept hbA (Nat.le_refl _)
  rw [← hW2]
  clear hW2 hbA hs1 hb1
  go_wp2_with fail
  refine (HQ2.out W2 hB2).mono ?_
  rintro e w3 h3
  obtain ⟨⟨k3, n3, s3, a3, b3, c3, d3, e3, f3⟩, rfl, hs3, hb3⟩ := h3.ans
  simp only [Cell5.vs] at hs3 ⊢
  clear h3
  go_upto_region 5 with fail
  obtain ⟨W4, hW4⟩ : ∃ W4, W4 = w3.alloc (Obj.cells #[.int .u8 k3, .int .u64 n3, .string s3, .slice a3 b3 c3, .slice d3 e3 f3] 27) := ⟨_, rfl⟩
  have hbA : Below w3.heap.size w3 W4 := by rw [hW4]; exact below_boxV _ _
  have hX4 : BoxV W4 w3.heap.size (.int .u8 k3) (.int .u64 n3) (.string s3) (.slice a3 b3 c3) (.slice d3 e3 f3) := by rw [hW4]; exact BoxV.new w3
  have hY4 := (hX2.kept hb3 (Nat.le_refl _)).kept hbA (Nat.le_refl _)
  have hB4 := (hB2.trans (hb3.mono hB2.size)).trans (hbA.mono (hB2.trans (hb3.mono hB2.size)).size)
  have hs4 := hs3.kept hbA (Nat.le_refl _)
  have ht4 := (hs2.kept hb3 (Nat.le_refl _)).kept hbA (Nat.le_refl _)
  rw [← hW4]
  have hsame := qsame_main _ _ _ _ _ W4 rfl ht4 hs4
  rw [sameT_refl] at hsame
  have HS := Lib.hid hsame
  have HB := Lib.hid hB4
  clear hW4 hbA hs3 hb3 hs2 hX2 hs4 ht4 hsame hB2 hB4
  generalize w1.heap.size = P1 at *
  generalize w3.heap.size = P3 at *
  generalize (ansG r).2.1 = N at *
  generalize (ansG r).2.2 = E at *
  have x0 := hX4.c0
  have x1 := hX4.c1
  have x2 := hX4.c2
  have x3 := hX4.c3
  have x4 := hX4.c4
  have y0 := hY4.c0
  have y1 := hY4.c1
  have y2 := hY4.c2
  have y3 := hY4.c3
  have y4 := hY4.c4
  have tN : ((N : Int) == (N : Int)) = true := by simp
  have tE : ((E : Int) == (E : Int)) = true := by simp
  clear hX4 hY4
  go_wp2_with fail
  refine HS.out.mono ?_
  rintro e w5 ⟨rfl, hb5⟩
  have hB5 := HB.out.trans (hb5.mono HB.out.size)
  clear x0 x1 x2 x3 x4 y0 y1 y2 y3 y4
  go_wp2_with fail
  refine (HH.out _).mono ?_
  rintro e w6 ⟨rfl, hb6⟩
  go_wp2_with fail
  go_ret
  exact ⟨rfl, hB5.trans (hb6.mono hB5.size)⟩

set_option maxRecDepth 100000 in
set_option maxHeartbeats 1000000 in
theorem vgets_walk_lifted (os : Os) (started : os.Started) (H : Type) (enc : TypeId × Value → H) :
    ReturnsInHanded {} Try.checked os 8 .any (Rows.valueGetsSpec.pre6 enc Try.prog Try.f8 Rows.valueGetsRow.domain false) (Rows.valueGetsSpec.post enc Try.prog Try.f8 false true false false) := by
  refine returnsInHanded_of_change_sized (C := Try.checked) own started (by kernel_rfl) Try.func8
    (ChangeSpec.witness6 (enc := enc) (C := Try.checked) false ⟨#[], #[.slice none 0 0], []⟩ 8 (by kernel_rfl) (by kernel_rfl) (by kernel_rfl) (by kernel_rfl)) ?_
  intro W base args ds gs before hval0 hW hcnd hsz0 _
  have hval : ∀ (j : Nat) t v, Try.f8.params[j]? = some t → args[j]? = some v → Value.okWide Try.prog W .any base t v := hval0
  have hsz : (DataW.weightsEach Try.prog (Try.f8.params.toList ++ Rows.valueGetsSpec.plain.varTypes Try.prog) (ds ++ gs)).all (· ≤ reachBytes) = true := hsz0
  have hW' := hW
  obtain ⟨p, q, hA0, hV, rfl, hfz, hnd⟩ := hW
  have hA : DataW.TrodAll enc Try.prog W 0 (fun _ => true) true Try.f8.params.toList args.toList ds p := hA0
  rw [Try.params8] at hA hval hsz
  obtain ⟨v0, vs0, d0, ds0, p0, q0, hargs, rfl, rfl, h0, r0⟩ := trodAll_cons hA
  obtain ⟨rfl, rfl, rfl⟩ := trodAll_nil r0
  obtain rfl : args = #[v0] := by cases args; simp_all
  obtain ⟨rfl, rfl⟩ := trodVars_none hV
  have k0 := h0
  have lt0 : ∀ x ∈ p0, x.block < W.heap.size := by obtain ⟨m, hm⟩ := k0; exact DataW.trod_lt m _ _ _ hm
  obtain ⟨A0, c0, b0, L0, rfl, sh0, l0⟩ := open_bytes Try.underlying46 Try.underlying5 (by kernel_rfl) bytes5 (hval 0 46 v0 rfl rfl) h0 hsz 0 rfl rfl
  clear hA0 hval0
  refine (vgets_walk A0 c0 b0 L0 W sh0 (by omega)).mono fun e W' ⟨he, bel⟩ => ?_
  subst he
  exact ⟨_, rfl, _, _, _, [], _, [], hW', trodAll_mk1 (shut_bool Try.underlying4 _), (trodAll_cons_mk (Below.trod laidOut (by kernel_rfl) (of_decide_eq_true (by kernel_rfl)) k0 bel lt0) trodAll_mk0), rfl, bel.frame _, fun h => by cases h⟩

theorem valueGets_holds : Rows.ValueGetsSaid :=
  OpenClaim.holds_of_wide 8 Try.f8 rfl rfl rfl rfl rfl rfl rfl ⟨rfl, rfl, rfl, rfl, rfl⟩ rfl rfl rfl rfl rfl (by kernel_rfl) Try.func8 (by kernel_rfl)
    (of_decide_eq_true (by kernel_rfl)) (by unfold Func.isWrapper; first | (rw [if_pos (by decide +kernel)]; kernel_rfl) | (rw [if_neg (by decide +kernel)]; exact ⟨rfl, rfl⟩))
    (fun os started H enc _ => vgets_walk_lifted os started H enc)
#print axioms valueGets_holds
end Go.Proofs.Ytnafibnhmhbfiaa
