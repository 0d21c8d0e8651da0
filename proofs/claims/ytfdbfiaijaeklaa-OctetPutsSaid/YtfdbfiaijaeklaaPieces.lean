/-
  OctetPieces: for every input the law returns true, and its arguments read as before.
  Conditions: none.
-/
import Derived.Test.YtfdbfiaijaeklaaH
import Derived.Test.YtfdbfiaijaeklaaRowkit
namespace Go.Proofs.Ytfdbfiaijaeklaa
open Go.ChangeShapes Go.WideShapes Go.ChangeAt Go.RowKit
set_option linter.unusedVariables false
set_option linter.unusedSimpArgs false

theorem takeS_far (n : Nat) (l : List UInt8) (h : l.length < n) : takeS (n : Int) (some l) = ([], none) := by simp only [takeS]; rw [if_neg (by omega)]
theorem takeS_ok (n : Nat) (l : List UInt8) (h : n ≤ l.length) : takeS (n : Int) (some l) = (l.take n, some (l.drop n)) := by simp only [takeS]; rw [if_pos (by omega)]; simp

theorem left_none (g d : Nat) (w : World) (h : RS w g d none) : Calls Try.prog 22 #[.pointer (some ⟨g, 0, none⟩)] w fun e w' => e = .returned (.int .i64 0) ∧ w = w' := by
  obtain ⟨l, hl⟩ := h
  exact left_any g d l false w hl
theorem left_some (g d : Nat) (l : List UInt8) (w : World) (h : RS w g d (some l)) : Calls Try.prog 22 #[.pointer (some ⟨g, 0, none⟩)] w fun e w' => e = .returned (.int .i64 l.length) ∧ w = w' := left_any g d l true w h

theorem left_some' (g d : Nat) (l : List UInt8) (m : Int) (w : World) (h : RS w g d (some l)) (hm : m = l.length) : Calls Try.prog 22 #[.pointer (some ⟨g, 0, none⟩)] w fun e w' => e = .returned (.int .i64 m) ∧ w = w' := by
  rw [hm]; exact left_some g d l w h

set_option maxRecDepth 100000 in
set_option maxHeartbeats 1000000 in
theorem pieces_walk (A0 A1 : Option Addr) (c0 c1 : Nat) (B L : List UInt8) (d0 d1 : Nat) (w : World)
    (h0 : Shows w d0 (.slice A0 B.length c0) B) (h1 : Shows w d1 (.slice A1 L.length c1) L) (hb : B.length ≤ 140737488355328) (hb1 : L.length ≤ 140737488355328) :
    Calls Try.prog 7 #[.slice A0 B.length c0, .slice A1 L.length c1] w fun e w' => e = .returned (.bool true) ∧ Below w.heap.size w w' := by
  go_enter Try.func7, Try.ntmps7
  go_wp2_with fail
  refine (open_any _ B d0 _ h0 hb).mono ?_
  rintro e w1 ⟨g, d, rfl, hr1, hg1, hd1, hb1'⟩
  go_wp2_with fail
  go_loopw [6, 7] (fun at_ i wr => ∃ k a : Nat, k ≤ L.length ∧ k ≤ 100 ∧ a ≤ B.length ∧ i = .int .i64 k ∧ at_ = .int .i64 a ∧ RS wr g d (some (B.drop a)) ∧ Below w.heap.size w wr) (fun _ i _ => L.length - (intOf i).toNat)
  case atStart => exact ⟨0, 0, Nat.zero_le _, by omega, Nat.zero_le _, rfl, rfl, by simpa using hr1, hb1'⟩
  case round =>
    obtain ⟨k, a, hk, hk2, ha, rfl, rfl, hr, hbw⟩ := hrel
    by_cases hlt : k < L.length ∧ k < 100
    · obtain ⟨hlt1, hlt2⟩ := hlt
      obtain ⟨o, rfl, _, hcl⟩ := (h1.below hbw (h1.lt (by omega))).at_ (by omega)
      have hcc : wr.cell? ⟨d1, o + k, none⟩ = some (.int .u8 (L[k]'hlt1).toNat) := hcl k hlt1
      have hlo : ((L[k]'hlt1).toNat : Int) < 256 := by have := (L[k]'hlt1).toNat_lt; omega
      generalize (L[k]'hlt1).toNat = n at *
      clear hcl
      go_wp2_with fail
      by_cases hf : B.length - a < n
      · refine (take_any g d _ n _ hr (by simp [lenS]; omega)).mono ?_
        rintro e w2 ⟨v2, rfl, ho2, hr2, hg2⟩
        rw [takeS_far n _ (by simpa using hf)] at ho2 hr2
        have hbw2 : Below w.heap.size w w2 := hbw.trans (below_of_grown hg2 hg1 hbw.size)
        obtain ⟨A2, c2, rfl, _⟩ := ho2.form
        have ht : decide ((B.length : Int) - a < n) = true := by simp; omega
        go_wp2_with (first
          | (go_at_call 23; refine (bad_yes' g d _ hr2).mono ?_; rintro e w' ⟨rfl, rfl⟩)
          | (go_at_call 22; refine (left_none g d _ hr2).mono ?_; rintro e w' ⟨rfl, rfl⟩)
          | (go_at_call 13; refine (head_any _).mono ?_; rintro e w3 ⟨rfl, hb3⟩))
        go_ret
        exact ⟨rfl, hbw2.trans (hb3.mono hbw2.size)⟩
      · refine (take_any g d _ n _ hr (by simp [lenS]; omega)).mono ?_
        rintro e w2 ⟨v2, rfl, ho2, hr2, hg2⟩
        rw [takeS_ok n _ (by simp; omega)] at ho2 hr2
        simp only [List.drop_drop] at hr2
        have hbw2 : Below w.heap.size w w2 := hbw.trans (below_of_grown hg2 hg1 hbw.size)
        obtain ⟨g2, _, hs2⟩ := ho2.shows
        have hy := ((h0.keep hbw2.size fun hp => hbw2.block _ (h0.lt hp)).head (k := a + n) (by omega))
        have hcvx : ∀ q, (convert 22 9 v2).run Try.prog (w2.drewN q) = .ok (.string (str8 ((B.drop a).take n))) (w2.drewN q) := fun q =>
          run_conv8 (P := Try.prog) (w2.drewN q) 22 5 9 Try.underlying22 Try.underlying5 Try.underlying9 g2 v2 _ hs2
        have hcvy : ∀ q A', (¬ c0 = a → A' = A0.map (fun x => x.add a)) → (convert 22 9 (.slice A' n (c0 - a))).run Try.prog (w2.drewN q) = .ok (.string (str8 ((B.drop a).take n))) (w2.drewN q) := fun q A' hA' => by
          have := hy.tail (k := a) (by simp; omega) A' hA'
          rw [show a + n - a = n by omega] at this
          have h2 := run_conv8 (P := Try.prog) (w2.drewN q) 22 5 9 Try.underlying22 Try.underlying5 Try.underlying9 d0 _ _ (this.drewN q)
          rw [h2, List.drop_take, show a + n - a = n by omega]
        have ht : decide ((B.length : Int) - a < n) = false := by simp; omega
        have hlc := h0.lens
        by_cases hca : c0 = a
        · have hcvz := fun q => hcvy q A0 (fun h => absurd hca h)
          rw [show c0 - a = 0 by omega] at hcvz
          have HCA := Lib.hid hca
          clear hcvy hca
          have HCX := Lib.hid hcvx
          have HCZ := Lib.hid hcvz
          clear hcvx hcvz
          go_wp2_with fail
          have hcvx := HCX.out
          have hcvz := HCZ.out
          have hca := HCA.out
          go_quiet ((go_at_call 23; exact Calls.quiet_of_same ((bad_no _ _ _ _ (by exact hr2)).mono fun _ _ ⟨a, b⟩ => ⟨a, b.symm⟩)))
          clear hcvx hcvz hca
          go_wp2_with (go_at_call 22; refine (left_some' g d _ ((B.length : Int) - ((a : Int) + n)) _ (by exact hr2) (by simp; omega)).mono ?_; rintro e w' ⟨rfl, rfl⟩)
          go_roundw
          case rel => exact ⟨k + 1, a + n, by omega, by omega, by omega, by go_num, by go_num, hr2, below_drewN hbw2 nq⟩
          case measure => simp [intOf]; omega
        · have hcvz := fun q => hcvy q _ (fun _ => rfl)
          clear hcvy
          have HCX := Lib.hid hcvx
          have HCZ := Lib.hid hcvz
          clear hcvx hcvz
          go_wp2_with fail
          have hcvx := HCX.out
          have hcvz := HCZ.out
          go_quiet ((go_at_call 23; exact Calls.quiet_of_same ((bad_no _ _ _ _ (by exact hr2)).mono fun _ _ ⟨a, b⟩ => ⟨a, b.symm⟩)))
          clear hcvx hcvz
          go_wp2_with (go_at_call 22; refine (left_some' g d _ ((B.length : Int) - ((a : Int) + n)) _ (by exact hr2) (by simp; omega)).mono ?_; rintro e w' ⟨rfl, rfl⟩)
          go_roundw
          case rel => exact ⟨k + 1, a + n, by omega, by omega, by omega, by go_num, by go_num, hr2, below_drewN hbw2 nq⟩
          case measure => simp [intOf]; omega
    · by_cases hlt1 : k < L.length
      · have hlt2 : ¬ k < 100 := fun h => hlt ⟨hlt1, h⟩
        clear hlt
        go_wp2_with (go_at_call 13; refine (head_any _).mono ?_; rintro e w3 ⟨rfl, hb3⟩)
        go_ret
        exact ⟨rfl, hbw.trans (hb3.mono hbw.size)⟩
      · clear hlt
        go_wp2_with (go_at_call 13; refine (head_any _).mono ?_; rintro e w3 ⟨rfl, hb3⟩)
        go_ret
        exact ⟨rfl, hbw.trans (hb3.mono hbw.size)⟩

theorem own : ownKnob Try.prog.godebug = none := by kernel_rfl
theorem laidOut : laidOutB Try.prog = true := by kernel_rfl
theorem bytes5 : Try.prog.bytesOf 5 = 1 := by kernel_rfl

set_option maxRecDepth 100000 in
theorem pieces_lifted (os : Os) (started : os.Started) (H : Type) (enc : TypeId × Value → H) :
    ReturnsInHanded {} Try.checked os 7 .any (Rows.octetPiecesSpec.pre6 enc Try.prog Try.f7 Rows.octetPiecesRow.domain false) (Rows.octetPiecesSpec.post enc Try.prog Try.f7 false true false false) := by
  refine returnsInHanded_of_change_sized (C := Try.checked) own started (by kernel_rfl) Try.func7
    (ChangeSpec.witness6 (enc := enc) (C := Try.checked) false ⟨#[], #[.slice none 0 0, .slice none 0 0], []⟩ 8 (by kernel_rfl) (by kernel_rfl) (by kernel_rfl) (by kernel_rfl)) ?_
  intro W base args ds gs before hval0 hW hcnd hsz0 _
  have hval : ∀ (j : Nat) t v, Try.f7.params[j]? = some t → args[j]? = some v → Value.okWide Try.prog W .any base t v := hval0
  have hsz : (DataW.weightsEach Try.prog (Try.f7.params.toList ++ Rows.octetPiecesSpec.plain.varTypes Try.prog) (ds ++ gs)).all (· ≤ reachBytes) = true := hsz0
  have hW' := hW
  obtain ⟨p, q, hA0, hV, rfl, hfz, hnd⟩ := hW
  have hA : DataW.TrodAll enc Try.prog W 0 (fun _ => true) true Try.f7.params.toList args.toList ds p := hA0
  rw [Try.params7] at hA hval hsz
  obtain ⟨v0, vs0, d0, ds0, p0, q0, hargs, rfl, rfl, h0, r0⟩ := trodAll_cons hA
  obtain ⟨v1, vs1, d1, ds1, p1, q1, rfl, rfl, rfl, h1, r1⟩ := trodAll_cons r0
  obtain ⟨rfl, rfl, rfl⟩ := trodAll_nil r1
  obtain rfl : args = #[v0, v1] := by cases args; simp_all
  obtain ⟨rfl, rfl⟩ := trodVars_none hV
  obtain ⟨A0, c0, b0, B, rfl, s0, l0⟩ := open_bytes Try.underlying22 Try.underlying5 (by kernel_rfl) bytes5 (hval 0 22 v0 rfl rfl) h0 hsz 0 rfl rfl
  obtain ⟨A1, c1, b1, L, rfl, s1, l1⟩ := open_bytes Try.underlying22 Try.underlying5 (by kernel_rfl) bytes5 (hval 1 22 v1 rfl rfl) h1 hsz 1 rfl rfl
  have k0 := h0
  have k1 := h1
  have lt0 : ∀ x ∈ p0, x.block < W.heap.size := by obtain ⟨m, hm⟩ := k0; exact DataW.trod_lt m _ _ _ hm
  have lt1 : ∀ x ∈ p1, x.block < W.heap.size := by obtain ⟨m, hm⟩ := k1; exact DataW.trod_lt m _ _ _ hm
  clear hA0 hval0
  refine (pieces_walk A0 A1 c0 c1 B L b0 b1 W s0 s1 (by omega) (by omega)).mono fun e W' ⟨he, bel⟩ => ?_
  subst he
  exact ⟨_, rfl, _, _, _, [], _, [], hW', trodAll_mk1 (shut_bool Try.underlying4 _), (trodAll_cons_mk (Below.trod laidOut (by kernel_rfl) (of_decide_eq_true (by kernel_rfl)) k0 bel lt0) (trodAll_cons_mk (Below.trod laidOut (by kernel_rfl) (of_decide_eq_true (by kernel_rfl)) k1 bel lt1) trodAll_mk0)), rfl, bel.frame _, fun h => by cases h⟩

theorem pieces_over : Rows.octetPiecesRow.holds Try.pinned (OpenSpec.ofChange Rows.octetPiecesSpec) :=
  OpenClaim.holds_of_wide 7 Try.f7 rfl rfl rfl rfl rfl rfl rfl ⟨rfl, rfl, rfl, rfl, rfl⟩ rfl rfl rfl rfl rfl (by kernel_rfl) Try.func7 (by kernel_rfl)
    (of_decide_eq_true (by kernel_rfl)) (by unfold Func.isWrapper; first | (rw [if_pos (by decide +kernel)]; kernel_rfl) | (rw [if_neg (by decide +kernel)]; exact ⟨rfl, rfl⟩))
    (fun os started H enc _ => pieces_lifted os started H enc)

theorem octetPieces_holds : Rows.OctetPiecesSaid := pieces_over
#print axioms octetPieces_holds
end Go.Proofs.Ytfdbfiaijaeklaa
