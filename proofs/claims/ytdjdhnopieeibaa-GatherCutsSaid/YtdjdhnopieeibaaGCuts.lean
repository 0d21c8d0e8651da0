/-
  For every assembly and number: Check and Cut of package gather tell what the document's own Check and Cut tell.
  Conditions: none.
-/
import Derived.Test.YtdjdhnopieeibaaGaL
import Derived.Test.YtdjdhnopieeibaaGaO
import Derived.Test.YtdjdhnopieeibaaGaS
import Derived.Test.YtdjdhnopieeibaaFrS
import Derived.Deep.RegionHeld3
namespace Go.Proofs.Ytdjdhnopieeibaa
open Go.ChangeShapes Go.WideShapes Go.ChangeAt Go.RowKit
open Go.ChangeMaps (open_string shut_string)
set_option linter.unusedVariables false
set_option linter.unusedSimpArgs false

theorem cutD_len (most : Int) (k ch : Nat) (l : List Sg) : (cutD most k ch l).1.length ≤ 20000 := by
  unfold cutD
  split
  · simp
  · rename_i h1
    split
    · simp
    · rename_i h2
      obtain ⟨ht, hs⟩ := checkA_zero (k := k) (l := l) (by omega)
      have h3 := types_three ht
      have := framesD_len (n := most.toNat) (by omega) k ch l true
      simp only
      omega

set_option maxRecDepth 100000 in
set_option maxHeartbeats 16000000 in
theorem gcuts_walk (ch k : Nat) (A : Option Addr) (c d : Nat) (l : List Sg) (most : Int) (w : World) (h : ShowsG sgC w d (.slice A l.length c) l) (hll : l.length ≤ 5864062014636) (hok : ∀ s ∈ l, s.ok) (hm0 : -9223372036854775808 ≤ most) (hm1 : most ≤ 9223372036854775807) :
    Calls Try.prog 5 #[asV ch k (.slice A l.length c), .int .i64 most] w fun e w' => e = .returned (.bool true) ∧ Below w.heap.size w w' := by
  obtain ⟨_, hlc, hcm⟩ := h.lens
  have hz : ∀ s ∈ l, s.p.size ≤ 140737488351232 := fun s hs => (hok s hs).2
  have HCUT := fun w' (hb : Below w.heap.size w w') => gcut_any ch k most A c d l w' (h.below' hb (Nat.le_refl _)) (by omega) hz
  have HQCUT := fun w' (hb : Below w.heap.size w w') => qgcut_any ch k most A c d l w' (h.below' hb (Nat.le_refl _)) (by omega) hz
  have HCK := Lib.hid (fun w' (hb : Below w.heap.size w w') => gcheck_any ch k A c d l w' (h.below' hb (Nat.le_refl _)) (by omega) hz)
  have HQCK := Lib.hid (fun w' (hb : Below w.heap.size w w') => qgcheck_any ch k A c d l w' (h.below' hb (Nat.le_refl _)) (by omega) hz)
  have HS := Lib.hid (fun w' (hb : Below w.heap.size w w') => h.below' hb (Nat.le_refl _))
  have HH := Lib.hid ghead_any
  have hRl := cutD_len most k ch l
  unfold CutSaid at HCUT HQCUT
  generalize cutD most k ch l = R at *
  generalize checkA k l = CK at *
  obtain ⟨FR, E⟩ := R
  simp only at HCUT HQCUT hRl
  have HCUT := Lib.hid HCUT
  have HQCUT := Lib.hid HQCUT
  have hX := BoxA.new w ch k (.slice A l.length c)
  have hb0 := below_box w (Obj.cells #[.int .u16 ch, .int .u8 k, .slice A l.length c] 52)
  have hls : (w.alloc (Obj.cells #[.int .u16 ch, .int .u8 k, .slice A l.length c] 52)).heap.size = w.heap.size + 1 := by simp
  have x2 := hX.c2
  have HX := Lib.hid (And.intro hX (And.intro hb0 hls))
  have HZ := Lib.hid hz
  unfold asV at *
  clear h hX hb0 hls hok hz
  go_enter Try.func5, Try.ntmps5
  by_cases hlong : 10 < l.length
  · have hi : (10 : Int) < (l.length : Int) := by omega
    go_wp2_with (go_at_call 20; refine (HH.out _).mono ?_; rintro e w4 ⟨rfl, hb4⟩)
    go_ret
    exact ⟨rfl, HX.out.2.1.trans (hb4.mono HX.out.2.1.size)⟩
  · have hi : ¬ (10 : Int) < (l.length : Int) := by omega
    generalize hW1 : w.alloc (Obj.cells #[.int .u16 ch, .int .u8 k, .slice A l.length c] 52) = W1 at *
    have HW1 := Lib.hid hW1
    clear hW1
    go_upto_region 1 with fail
    rw [HW1.out]
    go_wp2_with fail
    go_loopw [5] (fun i wr => ∃ j : Nat, j ≤ l.length ∧ i = .int .i64 j ∧ wr = W1) (fun i _ => l.length - (intOf i).toNat)
    case atStart => exact ⟨0, Nat.zero_le _, rfl, rfl⟩
    case round =>
      obtain ⟨j, hj, rfl, rfl⟩ := hrel
      by_cases hlt : j < l.length
      · have hjl : (j : Int) < (l.length : Int) := by omega
        obtain ⟨o, rfl, hd, hcl⟩ := (HS.out _ HX.out.2.1).at_ (by omega)
        obtain ⟨y0, y1⟩ := sg_cell hcl hlt
        have hzj := HZ.out _ (List.getElem_mem hlt)
        clear hcl
        generalize l[j] = s at *
        obtain ⟨st, sp⟩ := s
        simp only [] at *
        by_cases h1 : 2000 < sp.size
        · have i1 : (2000 : Int) < (sp.size : Int) := by omega
          by_cases h2 : most < 50
          · by_cases h3 : 0 < most
            · go_wp2_with (go_at_call 20; refine (HH.out _).mono ?_; rintro e w4 ⟨rfl, hb4⟩)
              go_ret
              exact ⟨rfl, HX.out.2.1.trans (hb4.mono HX.out.2.1.size)⟩
            · go_wp2_with fail
              go_roundw
              case rel => exact ⟨j + 1, by omega, by go_num, by first | trivial | rfl⟩
              case measure => simp [intOf]; omega
          · go_wp2_with fail
            go_roundw
            case rel => exact ⟨j + 1, by omega, by go_num, by first | trivial | rfl⟩
            case measure => simp [intOf]; omega
        · have i1 : ¬ (2000 : Int) < (sp.size : Int) := by omega
          go_wp2_with fail
          go_roundw
          case rel => exact ⟨j + 1, by omega, by go_num, by first | trivial | rfl⟩
          case measure => simp [intOf]; omega
      · have hjl : ¬ (j : Int) < (l.length : Int) := by omega
        rename World => W1
        have x0 := HX.out.1.c0
        have x1 := HX.out.1.c1
        go_wp2_with (first
          | (go_at_call 21
             refine (HCUT.out _ HX.out.2.1).mono ?_
             rintro e w2 ⟨v2, rfl, ho2, hb2⟩
             obtain ⟨A2, c2, rfl, _, _⟩ := ho2.form
             have HX2 := Lib.hid (And.intro (HX.out.1.kept hb2 (Nat.le_refl _)) (HX.out.2.1.trans (hb2.mono HX.out.2.1.size)))
             have y0 := HX2.out.1.c0
             have y1 := HX2.out.1.c1
             have y2 := HX2.out.1.c2)
          | (go_at_call 22
             refine (HQCUT.out _ HX2.out.2).mono ?_
             rintro e w3 ⟨v3, rfl, ho3, hb3⟩
             obtain ⟨A3, c3, rfl, _, _⟩ := ho3.form
             have HX3 := Lib.hid (And.intro (HX2.out.1.kept hb3 (Nat.le_refl _)) (HX2.out.2.trans (hb3.mono HX2.out.2.size)))
             have HO3 := Lib.hid (And.intro (ho2.below hb3 (Nat.le_refl _)) ho3)))
        obtain ⟨d2, _, hs2⟩ := HO3.out.1.shows
        obtain ⟨d3, _, hs3⟩ := HO3.out.2.shows
        have HSM := Lib.hid (qfsame_true A2 A3 c2 c3 FR.length FR.length d2 d3 FR FR w3.drew rfl rfl hs2 hs3 (by omega) (by omega) rfl)
        have HKEEP := Lib.hid (fun w' (hb : Below w3.heap.size w3 w') => show (w'.cell? ⟨w.heap.size, 0, none⟩ = some (.int .u16 ch) ∧ w'.cell? ⟨w.heap.size, 1, none⟩ = some (.int .u8 k) ∧ w'.cell? ⟨w.heap.size, 2, none⟩ = some (.slice A l.length c)) from
          ⟨(HX3.out.1.kept hb (Nat.le_refl _)).c0, (HX3.out.1.kept hb (Nat.le_refl _)).c1, (HX3.out.1.kept hb (Nat.le_refl _)).c2⟩)
        have HTR := Lib.hid (fun w' (hb : Below w3.heap.size w3 w') => HX3.out.2.trans (hb.mono HX3.out.2.size))
        have HNX := Lib.hid (fun w' w'' (hb' : Below w'.heap.size w' w'') (hb : Below w3.heap.size w3 w') => hb.trans (hb'.mono hb.size))
        have hb3d : Below w3.heap.size w3 w3.drew := below_drew1 (Below.refl _ _)
        clear x0 x1 y0 y1 y2 hb2 hb3 ho2 ho3 hs2 hs3
        go_region_held3 (fun w' => (w'.cell? ⟨w.heap.size, 0, none⟩ = some (.int .u16 ch) ∧ w'.cell? ⟨w.heap.size, 1, none⟩ = some (.int .u8 k) ∧ w'.cell? ⟨w.heap.size, 2, none⟩ = some (.slice A l.length c))) (exact HKEEP.out _ (by assumption))
          (first
            | (go_at_call 19
               refine HSM.out.mono ?_
               rintro e w5 ⟨rfl, q, rfl⟩
               have hb5 : Below w3.heap.size w3 (w3.drewN (1 + q)) := below_drewN (Below.refl _ _) _)
            | (go_at_call 23
               refine (HCK.out _ (HTR.out _ (by assumption))).mono ?_
               rintro e w6 ⟨rfl, hb6⟩
               have hb6' := HNX.out _ _ hb6 (by assumption))
            | (go_at_call 24
               refine (HQCK.out _ (HTR.out _ (by assumption))).mono ?_
               rintro e w7 ⟨rfl, hb7⟩
               have hb7' := HNX.out _ _ hb7 (by assumption))
            | (go_at_call 20
               refine (HH.out _).mono ?_
               rintro e w8 ⟨rfl, hb8⟩
               have hb8' := HNX.out _ _ hb8 (by assumption)))
        all_goals
          go_wp2_with fail
          go_ret
          exact ⟨rfl, HTR.out _ hb8'⟩

set_option maxRecDepth 100000 in
set_option maxHeartbeats 1000000 in
theorem gcuts_walk_lifted (os : Os) (started : os.Started) (H : Type) (enc : TypeId × Value → H) :
    ReturnsInHanded {} Try.checked os 5 .any (Rows.gatherCutsSpec.pre6 enc Try.prog Try.f5 Rows.gatherCutsRow.domain false) (Rows.gatherCutsSpec.post enc Try.prog Try.f5 false true false false) := by
  refine returnsInHanded_of_change_sized (C := Try.checked) own started (by kernel_rfl) Try.func5
    (ChangeSpec.witness6 (enc := enc) (C := Try.checked) false ⟨#[], #[.agg #[.int .u16 0, .int .u8 0, .slice none 0 0], .int .i64 0], []⟩ 8 (by kernel_rfl) (by kernel_rfl) (by kernel_rfl) (by kernel_rfl)) ?_
  intro W base args ds gs before hval0 hW hcnd hsz0 _
  have hval : ∀ (j : Nat) t v, Try.f5.params[j]? = some t → args[j]? = some v → Value.okWide Try.prog W .any base t v := hval0
  have hsz : (DataW.weightsEach Try.prog (Try.f5.params.toList ++ Rows.gatherCutsSpec.plain.varTypes Try.prog) (ds ++ gs)).all (· ≤ reachBytes) = true := hsz0
  have hW' := hW
  obtain ⟨p, q, hA0, hV, rfl, hfz, hnd⟩ := hW
  have hA : DataW.TrodAll enc Try.prog W 0 (fun _ => true) true Try.f5.params.toList args.toList ds p := hA0
  rw [Try.params5] at hA hval hsz
  obtain ⟨v0, vs0, d0, ds0, p0, q0, hargs, rfl, rfl, h0, r0⟩ := trodAll_cons hA
  obtain ⟨v1, vs1, d1, ds1, p1, q1, rfl, rfl, rfl, h1, r1⟩ := trodAll_cons r0
  obtain ⟨rfl, rfl, rfl⟩ := trodAll_nil r1
  obtain rfl : args = #[v0, v1] := by cases args; simp_all
  obtain ⟨rfl, rfl⟩ := trodVars_none hV
  have k0 := h0
  have lt0 : ∀ x ∈ p0, x.block < W.heap.size := by obtain ⟨m, hm⟩ := k0; exact DataW.trod_lt m _ _ _ hm
  have k1 := h1
  have lt1 : ∀ x ∈ p1, x.block < W.heap.size := by obtain ⟨m, hm⟩ := k1; exact DataW.trod_lt m _ _ _ hm
  obtain ⟨ch0, kk0, A0, c0, b0, L0, rfl, hc0, hk0, sh0, l0, ok0⟩ := open_asm (hval 0 52 v0 rfl rfl) h0 hsz 0 rfl rfl
  obtain ⟨s1, rfl, rfl, rfl, ws1⟩ := open_int Try.underlying3 (hval 1 3 v1 rfl rfl) h1
  obtain ⟨s10, s11⟩ := i64_range ws1
  clear hA0 hval0
  refine (gcuts_walk ch0 kk0 A0 c0 b0 L0 s1 W sh0 l0 ok0 s10 s11).mono fun e W' ⟨he, bel⟩ => ?_
  subst he
  exact ⟨_, rfl, _, _, _, [], _, [], hW', trodAll_mk1 (shut_bool Try.underlying4 _), (trodAll_cons_mk (Below.trod laidOut (by kernel_rfl) (of_decide_eq_true (by kernel_rfl)) k0 bel lt0) (trodAll_cons_mk (Below.trod laidOut (by kernel_rfl) (of_decide_eq_true (by kernel_rfl)) k1 bel lt1) trodAll_mk0)), rfl, bel.frame _, fun h => by cases h⟩

theorem gatherCuts_holds : Rows.GatherCutsSaid :=
  OpenClaim.holds_of_wide 5 Try.f5 rfl rfl rfl rfl rfl rfl rfl ⟨rfl, rfl, rfl, rfl, rfl⟩ rfl rfl rfl rfl rfl (by kernel_rfl) Try.func5 (by kernel_rfl)
    (of_decide_eq_true (by kernel_rfl)) (by unfold Func.isWrapper; first | (rw [if_pos (by decide +kernel)]; kernel_rfl) | (rw [if_neg (by decide +kernel)]; exact ⟨rfl, rfl⟩))
    (fun os started H enc _ => gcuts_walk_lifted os started H enc)
#print axioms gatherCuts_holds
end Go.Proofs.Ytdjdhnopieeibaa
