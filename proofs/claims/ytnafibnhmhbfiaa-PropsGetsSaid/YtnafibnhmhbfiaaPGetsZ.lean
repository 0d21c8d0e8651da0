/-
  For any text of at most 20000 bytes: the program's Get tells the properties, or the error, that the document's Get tells.
  Conditions: none.
-/
import Derived.Test.YtnafibnhmhbfiaaPrTZ
import Derived.Test.YtnafibnhmhbfiaaPrFZ
import Derived.Test.YtnafibnhmhbfiaaPrOZ
namespace Go.Proofs.Ytnafibnhmhbfiaa
open Go.ChangeShapes Go.WideShapes Go.ChangeAt Go.RowKit
open Go.ChangeMaps (open_string shut_string)
set_option linter.unusedVariables false
set_option linter.unusedSimpArgs false

/-- What a Get hands back: properties, an error. -/
def ansP (r : Option PropP) : PropP × Nat :=
  match r with
  | none => (zPr, 90)
  | some p => (p, 0)
theorem PGetSaid.ans {l : List UInt8} {w w' : World} {e : Ending} (h : PGetSaid l w e w') :
    ∃ (k n : Nat) (s : ByteArray) (a3 : Option Addr) (n3 c3 : Nat) (a4 : Option Addr) (n4 c4 : Nat), e = .returned (.tuple #[propV (ansP (getPr l)).1 (.int .u8 k) (.int .u64 n) (.string s) (.slice a3 n3 c3) (.slice a4 n4 c4), .int .i64 (ansP (getPr l)).2]) ∧
      ShowsP w' (ansP (getPr l)).1 (.int .u8 k) (.int .u64 n) (.string s) (.slice a3 n3 c3) (.slice a4 n4 c4) ∧ Below w.heap.size w w' := by
  obtain ⟨hb, h⟩ := h
  generalize getPr l = r at *
  cases r with
  | none => exact ⟨0, 0, ⟨#[]⟩, none, 0, 0, none, 0, 0, h.trans rfl, ⟨Nat.zero_le _, Nat.zero_le _, zero_shows _⟩, hb⟩
  | some p =>
    obtain ⟨v0, v1, v2, v3, v4, he, hs⟩ := h
    obtain ⟨k, n, s, a3, n3, c3, a4, n4, c4, hx⟩ := hs.app.cells5
    simp only [List.cons.injEq, and_true] at hx
    obtain ⟨rfl, rfl, rfl, rfl, rfl⟩ := hx
    exact ⟨k, n, s, a3, n3, c3, a4, n4, c4, he, hs.sub (low_out _ _), hb⟩

set_option maxRecDepth 100000 in
set_option maxHeartbeats 4000000 in
theorem pgets_walk (s : ByteArray) (w : World) (hs : s.size ≤ 140737488351232) :
    Calls Try.prog 4 #[.string s] w fun e w' => e = .returned (.bool true) ∧ Below w.heap.size w w' := by
  have HH := Lib.hid phead_any
  have HG := Lib.hid (pget_any s w hs)
  have HQ := Lib.hid (fun (hl : s.size ≤ 20000) w' => qpget_any s w' hl)
  clear hs
  by_cases hlen : s.size ≤ 20000
  case neg =>
    have hlI : (20000 : Int) < (s.size : Int) := by omega
    go_enter Try.func4, Try.ntmps4
    go_wp2_with fail
    refine (HH.out _).mono ?_
    rintro e w2 ⟨rfl, hb2⟩
    go_wp2_with fail
    go_ret
    exact ⟨rfl, hb2⟩
  have hlI : ¬ (20000 : Int) < (s.size : Int) := by omega
  have HQ2 := Lib.hid (HQ.out hlen)
  clear HQ
  go_enter Try.func4, Try.ntmps4
  go_wp2_with fail
  refine HG.out.mono ?_
  rintro e w1 h1
  obtain ⟨k1, n1, s1, a1, b1, c1, d1, e1, f1, rfl, hs1, hb1⟩ := h1.ans
  clear h1
  have HA := Lib.hid (fun w' e' w'' (h : PGetSaid (sb s) w' e' w'') => h.ans)
  generalize (ansP (getPr (sb s))).2 = E at *
  generalize (ansP (getPr (sb s))).1 = p at *
  obtain ⟨key, dur, red, id, app⟩ := p
  have hsame := fun w' x1 x2 x3 x4 x5 y1 y2 y3 y4 y5 h1 h2 => qpsame_any ⟨key, dur, red, id, app⟩ ⟨key, dur, red, id, app⟩ x1 x2 x3 x4 x5 y1 y2 y3 y4 y5 w' h1 h2
  rw [samePr_refl] at hsame
  have HS := Lib.hid hsame
  clear hsame
  unfold propV at *
  simp only [] at *
  go_upto_region 4 with fail
  obtain ⟨W2, hW2⟩ : ∃ W2, W2 = w1.alloc (Obj.cells #[.string key, .bool dur, .bool red, .string id, .int .u8 k1, .int .u64 n1, .string s1, .slice a1 b1 c1, .slice d1 e1 f1] 29) := ⟨_, rfl⟩
  have hbA : Below w1.heap.size w1 W2 := by rw [hW2]; exact below_boxV _ _
  have hX2 : BoxPr W2 w1.heap.size ⟨key, dur, red, id, app⟩ (.int .u8 k1) (.int .u64 n1) (.string s1) (.slice a1 b1 c1) (.slice d1 e1 f1) := by rw [hW2]; exact BoxPr.new (p := ⟨key, dur, red, id, app⟩) w1
  have hB2 := hb1.trans (hbA.mono hb1.size)
  have hs2 := hs1.kept hbA (Nat.le_refl _)
  rw [← hW2]
  clear hW2 hbA hs1 hb1
  go_wp2_with fail
  refine (HQ2.out W2).mono ?_
  rintro e w3 h3
  obtain ⟨k3, n3, s3, a3, b3, c3, d3, e3, f3, rfl, hs3, hb3⟩ := HA.out _ _ _ h3
  clear h3
  go_upto_region 5 with fail
  obtain ⟨W4, hW4⟩ : ∃ W4, W4 = w3.alloc (Obj.cells #[.string key, .bool dur, .bool red, .string id, .int .u8 k3, .int .u64 n3, .string s3, .slice a3 b3 c3, .slice d3 e3 f3] 29) := ⟨_, rfl⟩
  have hbA : Below w3.heap.size w3 W4 := by rw [hW4]; exact below_boxV _ _
  have hX4 : BoxPr W4 w3.heap.size ⟨key, dur, red, id, app⟩ (.int .u8 k3) (.int .u64 n3) (.string s3) (.slice a3 b3 c3) (.slice d3 e3 f3) := by rw [hW4]; exact BoxPr.new (p := ⟨key, dur, red, id, app⟩) w3
  have hY4 := (hX2.kept hb3 (Nat.le_refl _)).kept hbA (Nat.le_refl _)
  have hB4 := (hB2.trans (hb3.mono hB2.size)).trans (hbA.mono (hB2.trans (hb3.mono hB2.size)).size)
  have HS4 := Lib.hid (HS.out W4 _ _ _ _ _ _ _ _ _ _ ((hs2.kept hb3 (Nat.le_refl _)).kept hbA (Nat.le_refl _)) (hs3.kept hbA (Nat.le_refl _)))
  rw [← hW4]
  have HB := Lib.hid hB4
  clear hW4 hbA hs3 hb3 hs2 hX2 hB2 hB4 HS HA
  generalize w1.heap.size = P1 at *
  generalize w3.heap.size = P3 at *
  obtain ⟨⟨x0, x1, x2, x3⟩, x4, x5, x6, x7, x8⟩ := hX4.cells
  obtain ⟨⟨y0, y1, y2, y3⟩, y4, y5, y6, y7, y8⟩ := hY4.cells
  simp only [] at x0 x1 x2 x3 y0 y1 y2 y3
  have tE : ((E : Int) == (E : Int)) = true := by simp
  clear hX4 hY4
  go_wp2_with fail
  refine HS4.out.mono ?_
  rintro e w5 ⟨rfl, hb5⟩
  have hB5 := HB.out.trans (hb5.mono HB.out.size)
  clear x0 x1 x2 x3 x4 x5 x6 x7 x8 y0 y1 y2 y3 y4 y5 y6 y7 y8
  go_wp2_with fail
  refine (HH.out _).mono ?_
  rintro e w6 ⟨rfl, hb6⟩
  go_wp2_with fail
  go_ret
  exact ⟨rfl, hB5.trans (hb6.mono hB5.size)⟩

set_option maxRecDepth 100000 in
set_option maxHeartbeats 1000000 in
theorem pgets_walk_lifted (os : Os) (started : os.Started) (H : Type) (enc : TypeId × Value → H) :
    ReturnsInHanded {} Try.checked os 4 .any (Rows.propsGetsSpec.pre6 enc Try.prog Try.f4 Rows.propsGetsRow.domain false) (Rows.propsGetsSpec.post enc Try.prog Try.f4 false true false false) := by
  refine returnsInHanded_of_change_sized (C := Try.checked) own started (by kernel_rfl) Try.func4
    (ChangeSpec.witness6 (enc := enc) (C := Try.checked) false ⟨#[], #[.string ⟨#[]⟩], []⟩ 8 (by kernel_rfl) (by kernel_rfl) (by kernel_rfl) (by kernel_rfl)) ?_
  intro W base args ds gs before hval0 hW hcnd hsz0 _
  have hval : ∀ (j : Nat) t v, Try.f4.params[j]? = some t → args[j]? = some v → Value.okWide Try.prog W .any base t v := hval0
  have hsz : (DataW.weightsEach Try.prog (Try.f4.params.toList ++ Rows.propsGetsSpec.plain.varTypes Try.prog) (ds ++ gs)).all (· ≤ reachBytes) = true := hsz0
  have hW' := hW
  obtain ⟨p, q, hA0, hV, rfl, hfz, hnd⟩ := hW
  have hA : DataW.TrodAll enc Try.prog W 0 (fun _ => true) true Try.f4.params.toList args.toList ds p := hA0
  rw [Try.params4] at hA hval hsz
  obtain ⟨v0, vs0, d0, ds0, p0, q0, hargs, rfl, rfl, h0, r0⟩ := trodAll_cons hA
  obtain ⟨rfl, rfl, rfl⟩ := trodAll_nil r0
  obtain rfl : args = #[v0] := by cases args; simp_all
  obtain ⟨rfl, rfl⟩ := trodVars_none hV
  have k0 := h0
  have lt0 : ∀ x ∈ p0, x.block < W.heap.size := by obtain ⟨m, hm⟩ := k0; exact DataW.trod_lt m _ _ _ hm
  obtain ⟨s0, rfl, rfl, rfl, _⟩ := open_string Try.underlying9 (hval 0 9 v0 rfl rfl) h0
  have zs0 := sized_string hsz (j := 0) (t := 9) rfl rfl
  have zt0 : s0.size ≤ 140737488351232 := by rw [← sb_length]; exact zs0
  clear hA0 hval0
  refine (pgets_walk s0 W zt0).mono fun e W' ⟨he, bel⟩ => ?_
  subst he
  exact ⟨_, rfl, _, _, _, [], _, [], hW', trodAll_mk1 (shut_bool Try.underlying4 _), (trodAll_cons_mk (Below.trod laidOut (by kernel_rfl) (of_decide_eq_true (by kernel_rfl)) k0 bel lt0) trodAll_mk0), rfl, bel.frame _, fun h => by cases h⟩

theorem propsGets_holds : Rows.PropsGetsSaid :=
  OpenClaim.holds_of_wide 4 Try.f4 rfl rfl rfl rfl rfl rfl rfl ⟨rfl, rfl, rfl, rfl, rfl⟩ rfl rfl rfl rfl rfl (by kernel_rfl) Try.func4 (by kernel_rfl)
    (of_decide_eq_true (by kernel_rfl)) (by unfold Func.isWrapper; first | (rw [if_pos (by decide +kernel)]; kernel_rfl) | (rw [if_neg (by decide +kernel)]; exact ⟨rfl, rfl⟩))
    (fun os started H enc _ => pgets_walk_lifted os started H enc)
#print axioms propsGets_holds
end Go.Proofs.Ytnafibnhmhbfiaa
