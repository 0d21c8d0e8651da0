/-
  OctetBad: for every input the law returns true, and its arguments read as before.
  Conditions: none.
-/
import Derived.Test.YtfdbfiaijaeklaaPieces
namespace Go.Proofs.Ytfdbfiaijaeklaa
open Go.ChangeShapes Go.WideShapes Go.ChangeAt Go.RowKit
set_option linter.unusedVariables false
set_option linter.unusedSimpArgs false

/-- A reader that is bad: it answers nothing, and nothing turns. -/
structure Dead (p : Option Addr) (w : World) : Prop where
  take : ∀ n, Calls Try.prog 20 #[.pointer p, .int .i64 n] w fun e w' => e = .returned (.slice none 0 0) ∧ w = w'
  bad : Calls Try.prog 23 #[.pointer p] w fun e w' => e = .returned (.bool true) ∧ w = w'
  left : Calls Try.prog 22 #[.pointer p] w fun e w' => e = .returned (.int .i64 0) ∧ w = w'

theorem dead_nil (w : World) : Dead none w := ⟨fun n => take_nil n w, bad_nil w, left_nil w⟩
theorem dead_rs (g d : Nat) (w : World) (h : RS w g d none) : Dead (some ⟨g, 0, none⟩) w := by
  refine ⟨fun n => ?_, bad_yes' g d w h, left_none g d w h⟩
  obtain ⟨l, hl⟩ := h
  exact take_bad g d l n w hl

set_option maxHeartbeats 400000 in
theorem num_dead (p : Option Addr) (q : Int) (w : World) (h : Dead p w) :
    Calls Try.prog 16 #[.pointer p, .int .i64 q] w fun e w' => e = .returned (.int .u64 (0 : Nat)) ∧ w = w' := by
  by_cases hq : num q = true
  · have HQ := Lib.hid hq
    clear hq
    go_enter Try.func16, Try.ntmps16
    go_wp2_with fail
    refine (isWidth_yes q _ HQ.out).mono ?_
    rintro e w' ⟨rfl, rfl⟩
    go_wp2_with fail
    refine (h.take q).mono ?_
    rintro e w' ⟨rfl, rfl⟩
    go_wp2_with fail
    go_loop [5, 15] (fun n i => i = .int .i64 0 ∧ n = .int .u64 0) (fun _ _ => 0)
    case atStart => exact ⟨rfl, rfl⟩
    case round =>
      obtain ⟨rfl, rfl⟩ := hrel
      go_wp2
      go_ret
      exact ⟨rfl, rfl⟩
  · have hq : num q = false := by simpa using hq
    have HQ := Lib.hid hq
    clear hq
    go_enter Try.func16, Try.ntmps16
    go_wp2_with fail
    refine (isWidth_no q _ HQ.out).mono ?_
    rintro e w' ⟨rfl, rfl⟩
    go_wp2_with fail
    refine (h.take (-1)).mono ?_
    rintro e w' ⟨rfl, rfl⟩
    go_wp2_with fail
    go_loop [5, 15] (fun n i => i = .int .i64 0 ∧ n = .int .u64 0) (fun _ _ => 0)
    case atStart => exact ⟨rfl, rfl⟩
    case round =>
      obtain ⟨rfl, rfl⟩ := hrel
      go_wp2
      go_ret
      exact ⟨rfl, rfl⟩

set_option maxHeartbeats 400000 in
theorem text_dead (p : Option Addr) (q most : Int) (w : World) (h : Dead p w) (m1 : -9223372036854775808 ≤ most) (m2 : most ≤ 9223372036854775807) :
    Calls Try.prog 18 #[.pointer p, .int .i64 q, .int .i64 most] w fun e w' => e = .returned (.string (str8 [])) ∧ w = w' := by
  have hcv := fun W => run_conv8 (P := Try.prog) W 22 5 9 Try.underlying22 Try.underlying5 Try.underlying9 0 _ _ (Shows.nil_ W 0)
  by_cases h0 : most < 0
  · have t1 : decide (most < 0) = true := by simpa using h0
    by_cases hq : txt q = true
    all_goals
      have HQ := Lib.hid hq
      clear hq
      go_enter Try.func18, Try.ntmps18
      go_wp2_with fail
      first
        | refine (isText_yes q _ HQ.out).mono ?_
        | refine (isText_no q _ (by simpa using HQ.out)).mono ?_
      rintro e w' ⟨rfl, rfl⟩
      go_wp2_with fail
      refine (num_dead p _ _ h).mono ?_
      rintro e w' ⟨rfl, rfl⟩
      go_wp2_with fail
      refine (h.take _).mono ?_
      rintro e w' ⟨rfl, rfl⟩
      go_wp2_with fail
      go_ret
      exact ⟨rfl, rfl⟩
  · have t1 : decide (most < 0) = false := by simp; omega
    have t2 : decide (most < (0 : Int)) = false := by simp; omega
    by_cases hq : txt q = true
    all_goals
      have HQ := Lib.hid hq
      clear hq
      go_enter Try.func18, Try.ntmps18
      go_wp2_with fail
      first
        | refine (isText_yes q _ HQ.out).mono ?_
        | refine (isText_no q _ (by simpa using HQ.out)).mono ?_
      rintro e w' ⟨rfl, rfl⟩
      go_wp2_with fail
      refine (num_dead p _ _ h).mono ?_
      rintro e w' ⟨rfl, rfl⟩
      go_wp2_with fail
      refine (h.take _).mono ?_
      rintro e w' ⟨rfl, rfl⟩
      go_wp2_with fail
      go_ret
      exact ⟨rfl, rfl⟩

/-- What a slice of calls reads as: the second and third cell of each are integers. -/
def AskOk (n : Nat) (F : Nat → Nat → Value) : Prop :=
  ∀ i, i < n → ∃ a b c : Int, F i 0 = .int .u8 a ∧ F i 1 = .int .i64 b ∧ F i 2 = .int .i64 c ∧ 0 ≤ a ∧ a < 256 ∧ -9223372036854775808 ≤ b ∧ b ≤ 9223372036854775807 ∧ -9223372036854775808 ≤ c ∧ c ≤ 9223372036854775807

set_option maxRecDepth 100000 in
set_option maxHeartbeats 1000000 in
theorem bad_walk (A0 A1 : Option Addr) (c0 c1 n : Nat) (B : List UInt8) (F : Nat → Nat → Value) (d0 d1 : Nat) (w : World)
    (h0 : Shows w d0 (.slice A0 B.length c0) B) (h1 : ShowsN w d1 (.slice A1 n c1) n 3 F) (hF : AskOk n F) (hb : B.length ≤ 140737488355328) (hb1 : n ≤ 140737488355328) :
    Calls Try.prog 6 #[.slice A0 B.length c0, .slice A1 n c1] w fun e w' => e = .returned (.bool true) ∧ Below w.heap.size w w' := by
  have HF := Lib.hid hF
  clear hF
  go_enter Try.func6, Try.ntmps6
  go_wp2_with fail
  refine (open_any _ B d0 _ h0 hb).mono ?_
  rintro e w1 ⟨g, d, rfl, hr1, hg1, hd1, hb1'⟩
  go_wp2_with fail
  have hr1' : RS ((w1.alloc (.cells #[.slice none 0 0, .bool false] 58)).alloc (.cells #[.pointer (some ⟨g, 0, none⟩), .pointer none, .pointer (some ⟨w1.heap.size, 0, none⟩)] 36)) g d (some B) :=
    hr1.keep (by simp; omega) (((Below.refl w1.heap.size w1).alloc (Nat.le_refl _) _).alloc (by simp) _ |>.block _ hr1.lt) (fun hd => ((Below.refl w1.heap.size w1).alloc (Nat.le_refl _) _).alloc (by simp) _ |>.block _ hd)
  refine (take_any g d _ (-1) _ hr1' hb).mono ?_
  rintro e w2 ⟨v2, rfl, ho2, hr2, hg2⟩
  have hgl : g < w1.heap.size := hr1.lt
  have hB2 : Below w.heap.size w w2 := ((hb1'.alloc hb1'.size _).alloc (by have := hb1'.size; simp; omega) _).trans (below_of_grown hg2 hg1 (by have := hb1'.size; simp; omega))
  have hr2' : RS w2 g d none := hr2
  have hZ : w2.heap[w1.heap.size]? = some (.cells #[.slice none 0 0, .bool false] 58 (0, 0)) := by
    rw [hg2.block _ (by simp; omega) (by simp; omega), Below.heap_alloc _ _ _ (by simp)]
    exact heap_alloc_new w1 _
  have hrz : RS w2 w1.heap.size 0 none := ⟨[], none, 0, hZ, Shows.nil_ _ _⟩
  have hR : w2.heap[w1.heap.size + 1]? = some (.cells #[.pointer (some ⟨g, 0, none⟩), .pointer none, .pointer (some ⟨w1.heap.size, 0, none⟩)] 36 (0, 0)) := by
    rw [hg2.block _ (by simp) (by simp; omega)]
    have := heap_alloc_new (w1.alloc (.cells #[.slice none 0 0, .bool false] 58)) (.cells #[.pointer (some ⟨g, 0, none⟩), .pointer none, .pointer (some ⟨w1.heap.size, 0, none⟩)] 36)
    simpa using this
  have hRl : w1.heap.size + 1 < w2.heap.size := (Array.getElem?_eq_some_iff.1 hR).1
  have hD : ∀ k, k < 3 → ∃ p : Option Addr, w2.cell? ⟨w1.heap.size + 1, k, none⟩ = some (.pointer p) ∧ ∀ W, Below w2.heap.size w2 W → Dead p W := fun k hk => by
    rcases (show k = 0 ∨ k = 1 ∨ k = 2 by omega) with rfl | rfl | rfl
    · exact ⟨_, by rw [cell_of_row w2 _ _ _ 36 (0, 0) hR]; rfl, fun W hb => dead_rs g d W (hr2'.keep hb.size (hb.block _ hr2'.lt) fun hd => hb.block _ hd)⟩
    · exact ⟨_, by rw [cell_of_row w2 _ _ _ 36 (0, 0) hR]; rfl, fun W hb => dead_nil W⟩
    · exact ⟨_, by rw [cell_of_row w2 _ _ _ 36 (0, 0) hR]; rfl, fun W hb => dead_rs _ 0 W (hrz.keep hb.size (hb.block _ hrz.lt) fun hd => hb.block _ hd)⟩
  have h1' : ShowsN w2 d1 (.slice A1 n c1) n 3 F := h1.below hB2
  have HD := Lib.hid hD
  clear hR hZ hr2 hr1' hr1 ho2 hg2 hD hrz hr2' h1 h0
  go_wp2_with fail
  go_loopw [7] (fun i wr => ∃ k : Nat, k ≤ 3 ∧ i = .int .i64 k ∧ Below w2.heap.size w2 wr) (fun i _ => 3 - (intOf i).toNat)
  case atStart => exact ⟨0, by omega, rfl, Below.refl _ _⟩
  case round =>
    rename World => wo
    obtain ⟨k, hk, rfl, hbr⟩ := hrel
    by_cases hk3 : k < 3
    · obtain ⟨p, hcp, hdp⟩ := HD.out k hk3
      have hcp' : wo.cell? ⟨w1.heap.size + 1, k, none⟩ = some (.pointer p) := (hbr.cell (p := ⟨w1.heap.size + 1, k, none⟩) hRl).trans hcp
      have HDP := Lib.hid hdp
      have t3 : decide ((k : Int) < 3) = true := by simp; omega
      clear hcp hdp
      go_wp2_with fail
      go_loopw [9] (fun i wv => ∃ j : Nat, j ≤ n ∧ j ≤ 100 ∧ i = .int .i64 j ∧ Below w2.heap.size w2 wv) (fun i _ => n - (intOf i).toNat)
      case atStart => exact ⟨0, by omega, by omega, rfl, hbr⟩
      case round =>
        rename World => wv
        obtain ⟨j, hj, hj2, rfl, hbv⟩ := hrel
        by_cases hlt : j < n ∧ j < 100
        · obtain ⟨hlt1, hlt2⟩ := hlt
          obtain ⟨o, rfl, hdl, hcl⟩ := h1'.at_ (by omega)
          obtain ⟨x0, x1, x2, e0, e1, e2, _, _, b1, b2, b3, b4⟩ := HF.out j hlt1
          have f0 := hcl j 0 hlt1 (by omega)
          have f1 := hcl j 1 hlt1 (by omega)
          have f2 := hcl j 2 hlt1 (by omega)
          rw [e0] at f0
          rw [e1] at f1
          rw [e2] at f2
          have q0 : wv.cell? ⟨d1, o + j * 3, none⟩ = some (.int .u8 x0) := (hbv.cell (p := ⟨d1, o + j * 3, none⟩) hdl).trans f0
          have q1 : wv.cell? ⟨d1, o + j * 3 + 1, none⟩ = some (.int .i64 x1) := (hbv.cell (p := ⟨d1, o + j * 3 + 1, none⟩) hdl).trans f1
          have q2 : wv.cell? ⟨d1, o + j * 3 + 2, none⟩ = some (.int .i64 x2) := (hbv.cell (p := ⟨d1, o + j * 3 + 2, none⟩) hdl).trans f2
          clear hcl e0 e1 e2 f0 f1 f2
          have hba : ∀ o, Below w2.heap.size w2 (wv.alloc o) := fun o => hbv.alloc hbv.size o
          have HBA := Lib.hid hba
          have hst := str8_toList []
          clear hba
          go_wp2_with (first
            | (go_at_call 16; refine (num_dead p _ _ (HDP.out _ (HBA.out _))).mono ?_; rintro e w' ⟨rfl, rfl⟩)
            | (go_at_call 18; refine (text_dead p _ _ _ (HDP.out _ (HBA.out _)) b3 b4).mono ?_; rintro e w' ⟨rfl, rfl⟩)
            | (go_at_call 20; refine ((HDP.out _ (HBA.out _)).take _).mono ?_; rintro e w' ⟨rfl, rfl⟩))
          go_roundw
          case rel => exact ⟨j + 1, by omega, by omega, by go_num, HBA.out _⟩
          case measure => simp [intOf]; omega
        · have HB := Lib.hid hbv
          by_cases hlt1 : j < n
          · have hlt2 : ¬ j < 100 := fun h => hlt ⟨hlt1, h⟩
            clear hlt
            go_wp2_with (first
              | (go_at_call 23; refine ((HDP.out _ HB.out).bad).mono ?_; rintro e w' ⟨rfl, rfl⟩)
              | (go_at_call 22; refine ((HDP.out _ HB.out).left).mono ?_; rintro e w' ⟨rfl, rfl⟩))
            go_roundw
            case rel => exact ⟨k + 1, by omega, by go_num, hbv⟩
            case measure => simp [intOf]; omega
          · clear hlt
            go_wp2_with (first
              | (go_at_call 23; refine ((HDP.out _ HB.out).bad).mono ?_; rintro e w' ⟨rfl, rfl⟩)
              | (go_at_call 22; refine ((HDP.out _ HB.out).left).mono ?_; rintro e w' ⟨rfl, rfl⟩))
            go_roundw
            case rel => exact ⟨k + 1, by omega, by go_num, hbv⟩
            case measure => simp [intOf]; omega
    · go_wp2_with (go_at_call 13; refine (head_any _).mono ?_; rintro e w3 ⟨rfl, hb3⟩)
      go_ret
      exact ⟨rfl, (hB2.trans (hbr.mono hB2.size)).trans (hb3.mono (Nat.le_trans hB2.size hbr.size))⟩

theorem i64_range {b : Int} (h : (Lit.int .i64 b).wf = true) : -9223372036854775808 ≤ b ∧ b ≤ 9223372036854775807 := by
  simp only [Lit.wf, IntKind.min, IntKind.max, IntKind.signed, IntKind.bits, Bool.and_eq_true, decide_eq_true_eq] at h
  simp at h
  exact h
theorem u8_range {b : Int} (h : (Lit.int .u8 b).wf = true) : 0 ≤ b ∧ b < 256 := by
  simp only [Lit.wf, IntKind.min, IntKind.max, IntKind.signed, IntKind.bits, Bool.and_eq_true, decide_eq_true_eq] at h
  simp at h
  omega

theorem asks_ok {H : Type} {enc : TypeId × Value → H} {w : World} {base : Nat} {spare : Nat → Bool} {held : Bool} {n : Nat} {F : Nat → Nat → Value} {fs : Array Field} (hs : Try.prog.underlying 41 = some (.struct fs))
    (h : ∀ i, i < n → ∀ (k : Nat) (f : Field), fs[k]? = some f → ∃ (fuel : Nat) (y : DataW H × List MemPlace), DataW.trod enc Try.prog w base spare held fuel f.type [F i k] = some y) : AskOk n F := by
  rw [Try.underlying41] at hs
  injection hs with hs
  injection hs with hs
  subst hs
  intro i hi
  obtain ⟨f0, y0, g0⟩ := h i hi 0 _ rfl
  obtain ⟨f1, y1, g1⟩ := h i hi 1 _ rfl
  obtain ⟨f2, y2, g2⟩ := h i hi 2 _ rfl
  obtain ⟨a, ea, _, ha⟩ := DataW.trod_int Try.underlying5 g0
  obtain ⟨b, eb, _, hb⟩ := DataW.trod_int Try.underlying3 g1
  obtain ⟨c, ec, _, hc⟩ := DataW.trod_int Try.underlying3 g2
  simp only [List.cons.injEq, and_true] at ea eb ec
  exact ⟨a, b, c, ea, eb, ec, (u8_range ha).1, (u8_range ha).2, (i64_range hb).1, (i64_range hb).2, (i64_range hc).1, (i64_range hc).2⟩

theorem bytes41 : Try.prog.bytesOf 41 = 24 := by kernel_rfl

set_option maxRecDepth 100000 in
theorem bad_lifted (os : Os) (started : os.Started) (H : Type) (enc : TypeId × Value → H) :
    ReturnsInHanded {} Try.checked os 6 .any (Rows.octetBadSpec.pre6 enc Try.prog Try.f6 Rows.octetBadRow.domain false) (Rows.octetBadSpec.post enc Try.prog Try.f6 false true false false) := by
  refine returnsInHanded_of_change_sized (C := Try.checked) own started (by kernel_rfl) Try.func6
    (ChangeSpec.witness6 (enc := enc) (C := Try.checked) false ⟨#[], #[.slice none 0 0, .slice none 0 0], []⟩ 8 (by kernel_rfl) (by kernel_rfl) (by kernel_rfl) (by kernel_rfl)) ?_
  intro W base args ds gs before hval0 hW hcnd hsz0 _
  have hval : ∀ (j : Nat) t v, Try.f6.params[j]? = some t → args[j]? = some v → Value.okWide Try.prog W .any base t v := hval0
  have hsz : (DataW.weightsEach Try.prog (Try.f6.params.toList ++ Rows.octetBadSpec.plain.varTypes Try.prog) (ds ++ gs)).all (· ≤ reachBytes) = true := hsz0
  have hW' := hW
  obtain ⟨p, q, hA0, hV, rfl, hfz, hnd⟩ := hW
  have hA : DataW.TrodAll enc Try.prog W 0 (fun _ => true) true Try.f6.params.toList args.toList ds p := hA0
  rw [Try.params6] at hA hval hsz
  obtain ⟨v0, vs0, d0, ds0, p0, q0, hargs, rfl, rfl, h0, r0⟩ := trodAll_cons hA
  obtain ⟨v1, vs1, d1, ds1, p1, q1, rfl, rfl, rfl, h1, r1⟩ := trodAll_cons r0
  obtain ⟨rfl, rfl, rfl⟩ := trodAll_nil r1
  obtain rfl : args = #[v0, v1] := by cases args; simp_all
  obtain ⟨rfl, rfl⟩ := trodVars_none hV
  obtain ⟨A0, c0, b0, B, rfl, s0, l0⟩ := open_bytes Try.underlying22 Try.underlying5 (by kernel_rfl) bytes5 (hval 0 22 v0 rfl rfl) h0 hsz 0 rfl rfl
  obtain ⟨A1, n, c1, b1, F, rfl, s1, l1, hF⟩ := open_structs Try.underlying35 Try.underlying41 (by kernel_rfl) (by kernel_rfl) (by decide) (hval 1 35 v1 rfl rfl) h1 hsz 1 rfl rfl
  have hAsk := asks_ok Try.underlying41 hF
  rw [bytes41] at l1
  have k0 := h0
  have k1 := h1
  have lt0 : ∀ x ∈ p0, x.block < W.heap.size := by obtain ⟨m, hm⟩ := k0; exact DataW.trod_lt m _ _ _ hm
  have lt1 : ∀ x ∈ p1, x.block < W.heap.size := by obtain ⟨m, hm⟩ := k1; exact DataW.trod_lt m _ _ _ hm
  clear hA0 hval0
  refine (bad_walk A0 A1 c0 c1 n B F b0 b1 W s0 s1 hAsk (by omega) (by omega)).mono fun e W' ⟨he, bel⟩ => ?_
  subst he
  exact ⟨_, rfl, _, _, _, [], _, [], hW', trodAll_mk1 (shut_bool Try.underlying4 _), (trodAll_cons_mk (Below.trod laidOut (by kernel_rfl) (of_decide_eq_true (by kernel_rfl)) k0 bel lt0) (trodAll_cons_mk (Below.trod laidOut (by kernel_rfl) (of_decide_eq_true (by kernel_rfl)) k1 bel lt1) trodAll_mk0)), rfl, bel.frame _, fun h => by cases h⟩

theorem bad_over : Rows.octetBadRow.holds Try.pinned (OpenSpec.ofChange Rows.octetBadSpec) :=
  OpenClaim.holds_of_wide 6 Try.f6 rfl rfl rfl rfl rfl rfl rfl ⟨rfl, rfl, rfl, rfl, rfl⟩ rfl rfl rfl rfl rfl (by kernel_rfl) Try.func6 (by kernel_rfl)
    (of_decide_eq_true (by kernel_rfl)) (by unfold Func.isWrapper; first | (rw [if_pos (by decide +kernel)]; kernel_rfl) | (rw [if_neg (by decide +kernel)]; exact ⟨rfl, rfl⟩))
    (fun os started H enc _ => bad_lifted os started H enc)

theorem octetBad_holds : Rows.OctetBadSaid := bad_over
#print axioms octetBad_holds
end Go.Proofs.Ytfdbfiaijaeklaa
