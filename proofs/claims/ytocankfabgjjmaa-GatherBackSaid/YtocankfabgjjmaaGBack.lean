/-
  For every two assemblies of unlike channels or tracks (of at most 300 bytes): their frames, fed in whatever order, make both, each at its last frame.
  Conditions: sizes.
-/
import Derived.Test.YtocankfabgjjmaaGaBk
import Derived.Test.YtocankfabgjjmaaGaT
import Derived.Test.YtocankfabgjjmaaGaO
import Derived.WalkMore
import Derived.Deep.DeepCutAuto
import Derived.Deep.CutBlock
namespace Go.Proofs.Ytocankfabgjjmaa
open Go.ChangeShapes Go.WideShapes Go.ChangeAt Go.RowKit
open Go.ChangeMaps (open_string shut_string)
set_option linter.unusedVariables false
set_option linter.unusedSimpArgs false

theorem bk_nums {a b a' b' c n m : Nat} (hc : c = a + b) (hab : a' + b' = a + b + 1) (ha' : a' ≤ n) (hb' : b' ≤ m) (hn : n ≤ 20000) (hm : m ≤ 20000) : c + 1 ≤ 40000 ∧ c + 1 = a' + b' ∧ n + m - (a' + b') < n + m - (a + b) := by
  refine ⟨by omega, by omega, by omega⟩

set_option maxRecDepth 100000 in
set_option maxHeartbeats 8000000 in
theorem gback_walk (ch1 k1 : Nat) (A1 : Option Addr) (c1 d1 : Nat) (l1 : List Sg) (ch2 k2 : Nat) (A2 : Option Addr) (c2 d2 : Nat) (l2 : List Sg) (A3 : Option Addr) (c3 d3 : Nat) (ts : List Bool) (w : World)
    (h1 : ShowsG sgC w d1 (.slice A1 l1.length c1) l1) (hl1 : l1.length ≤ 5864062014636) (hok1 : ∀ s ∈ l1, s.ok) (hch1 : ch1 < 65536)
    (h2 : ShowsG sgC w d2 (.slice A2 l2.length c2) l2) (hl2 : l2.length ≤ 5864062014636) (hok2 : ∀ s ∈ l2, s.ok) (hch2 : ch2 < 65536)
    (h3 : ShowsG boC w d3 (.slice A3 ts.length c3) ts) (hl3 : ts.length ≤ 140737488351232) :
    Calls Try.prog 4 #[asV ch1 k1 (.slice A1 l1.length c1), asV ch2 k2 (.slice A2 l2.length c2), .slice A3 ts.length c3] w fun e w' => e = .returned (.bool true) ∧ Below w.heap.size w w' := by
  have HNEW := Lib.hid (fun w' => new_any w')
  have HH := Lib.hid ghead_any
  obtain ⟨r1, hr1⟩ : ∃ r, r = checkA k1 l1 := ⟨_, rfl⟩
  obtain ⟨r2, hr2⟩ : ∃ r, r = checkA k2 l2 := ⟨_, rfl⟩
  have HCK1 : Hid (∀ (w' : World), Below w.heap.size w w' → Calls Try.prog 12 #[.agg #[.int .u16 ch1, .int .u8 k1, .slice A1 l1.length c1]] w' fun e w'' => e = .returned (.int .i64 r1) ∧ Below w'.heap.size w' w'') := Lib.hid fun w' hb => by
    rw [hr1]
    exact gcheck_any ch1 k1 A1 c1 d1 l1 w' (h1.below' hb (Nat.le_refl _)) (by omega) (fun s hs => (hok1 s hs).2)
  have HCK2 : Hid (∀ (w' : World), Below w.heap.size w w' → Calls Try.prog 12 #[.agg #[.int .u16 ch2, .int .u8 k2, .slice A2 l2.length c2]] w' fun e w'' => e = .returned (.int .i64 r2) ∧ Below w'.heap.size w' w'') := Lib.hid fun w' hb => by
    rw [hr2]
    exact gcheck_any ch2 k2 A2 c2 d2 l2 w' (h2.below' hb (Nat.le_refl _)) (by omega) (fun s hs => (hok2 s hs).2)
  have HSH := Lib.hid (fun w' (hb : Below w.heap.size w w') => And.intro (h1.below' hb (Nat.le_refl _)) (And.intro (h2.below' hb (Nat.le_refl _)) (h3.below' hb (Nat.le_refl _))))
  have HR := Lib.hid (And.intro hr1 hr2)
  have HOK := Lib.hid (And.intro hok1 hok2)
  have hX1 := (BoxA.new w ch1 k1 (.slice A1 l1.length c1)).kept (f_below_box _ (Obj.cells #[.int .u16 ch2, .int .u8 k2, .slice A2 l2.length c2] 34)) (Nat.le_refl _)
  have hX2 := BoxA.new (w.alloc (Obj.cells #[.int .u16 ch1, .int .u8 k1, .slice A1 l1.length c1] 34)) ch2 k2 (.slice A2 l2.length c2)
  rw [World.size_alloc] at hX2
  have hbw : Below w.heap.size w ((w.alloc (Obj.cells #[.int .u16 ch1, .int .u8 k1, .slice A1 l1.length c1] 34)).alloc (Obj.cells #[.int .u16 ch2, .int .u8 k2, .slice A2 l2.length c2] 34)) := (f_below_box w _).alloc (by simp) _
  clear h1 h2 h3 hr1 hr2 hok1 hok2
  unfold asV
  go_enter Try.func4, Try.ntmps4
  go_upto_region 1 with fail
  generalize (w.alloc (Obj.cells #[.int .u16 ch1, .int .u8 k1, .slice A1 l1.length c1] 34)).alloc (Obj.cells #[.int .u16 ch2, .int .u8 k2, .slice A2 l2.length c2] 34) = W0 at *
  have HKX := Lib.hid (fun w' (hb : Below W0.heap.size W0 w') => And.intro (hX1.kept hb (Nat.le_refl _)) (hX2.kept hb (Nat.le_refl _)))
  have HBW := Lib.hid (fun w' (hb : Below W0.heap.size W0 w') => (show Below w.heap.size w w' from hbw.trans (hb.mono hbw.size)))
  have x0 := hX1.c0
  have x1 := hX1.c1
  have x2 := hX1.c2
  have y0 := hX2.c0
  have y1 := hX2.c1
  have y2 := hX2.c2
  clear hX1 hX2 hbw
  by_cases hz1 : r1 = 0
  · by_cases hz2 : r2 = 0
    · subst hz1 hz2
      by_cases hsame : ch1 = ch2 ∧ k1 = k2
      · have e1 : ((ch1 : Int) == (ch2 : Int)) = true := by simp; omega
        have e2 : ((k1 : Int) == (k2 : Int)) = true := by simp; omega
        clear hsame
        go_wp2_with fail
        refine (HCK1.out _ (HBW.out _ (by first | exact Below.refl _ _ | exact below_drew1 (Below.refl _ _) | exact below_drewN (Below.refl _ _) _))).mono ?_
        rintro e w1 ⟨rfl, hb1⟩
        have hB1 : Below W0.heap.size W0 w1 := by first | exact hb1 | exact (below_drew1 (Below.refl _ _)).trans (hb1.mono (Nat.le_refl _)) | exact (below_drewN (Below.refl _ _) _).trans (hb1.mono (Nat.le_refl _))
        have HB1 := Lib.hid hB1
        have hkp := HKX.out w1 hB1
        have p0 := hkp.1.c0
        have p1 := hkp.1.c1
        have p2 := hkp.1.c2
        have p3 := hkp.2.c0
        have p4 := hkp.2.c1
        have p5 := hkp.2.c2
        clear hb1 hB1 hkp
        go_wp2_with fail
        refine (HCK2.out _ (HBW.out _ (by first | exact HB1.out | exact below_drew1 HB1.out | exact below_drewN HB1.out _))).mono ?_
        rintro e w2 ⟨rfl, hb2⟩
        have hB2 : Below W0.heap.size W0 w2 := by first | exact HB1.out.trans (hb2.mono HB1.out.size) | exact (below_drew1 HB1.out).trans (hb2.mono HB1.out.size) | exact (below_drewN HB1.out _).trans (hb2.mono HB1.out.size)
        have HB2 := Lib.hid hB2
        have hkq := HKX.out w2 hB2
        have q0 := hkq.1.c0
        have q1 := hkq.1.c1
        have q2 := hkq.1.c2
        have q3 := hkq.2.c0
        have q4 := hkq.2.c1
        have q5 := hkq.2.c2
        clear hb2 hB2 hkq
        go_wp2_with fail
        refine (HH.out _).mono ?_
        rintro e w9 ⟨rfl, hb9⟩
        have hB9 : Below W0.heap.size W0 w9 := by first | exact HB2.out.trans (hb9.mono HB2.out.size) | exact (below_drew1 HB2.out).trans (hb9.mono HB2.out.size) | exact (below_drewN HB2.out _).trans (hb9.mono HB2.out.size)
        go_wp2_with fail
        go_ret
        exact ⟨rfl, HBW.out _ hB9⟩
      · have hways : (ch1 = ch2 ∧ k1 ≠ k2) ∨ ch1 ≠ ch2 := by omega
        have HSM := Lib.hid hsame
        have HPN : Hid ((ch1, k1) ≠ (ch2, k2)) := Lib.hid fun e => hsame ⟨congrArg Prod.fst e, congrArg Prod.snd e⟩
        clear hsame
        rcases hways with ⟨hch, hk⟩ | hch
        case' inl =>
          have e1 : ((ch1 : Int) == (ch2 : Int)) = true := by simp; omega
          have e2 : ((k1 : Int) == (k2 : Int)) = false := by rw [beq_eq_false_iff_ne]; omega
          clear hch hk
          go_wp2_with fail
          refine (HCK1.out _ (HBW.out _ (by first | exact Below.refl _ _ | exact below_drew1 (Below.refl _ _) | exact below_drewN (Below.refl _ _) _))).mono ?_
          rintro e w1 ⟨rfl, hb1⟩
          have hB1 : Below W0.heap.size W0 w1 := by first | exact hb1 | exact (below_drew1 (Below.refl _ _)).trans (hb1.mono (Nat.le_refl _)) | exact (below_drewN (Below.refl _ _) _).trans (hb1.mono (Nat.le_refl _))
          have HB1 := Lib.hid hB1
          have hkp := HKX.out w1 hB1
          have p0 := hkp.1.c0
          have p1 := hkp.1.c1
          have p2 := hkp.1.c2
          have p3 := hkp.2.c0
          have p4 := hkp.2.c1
          have p5 := hkp.2.c2
          clear hb1 hB1 hkp
          go_wp2_with fail
          refine (HCK2.out _ (HBW.out _ (by first | exact HB1.out | exact below_drew1 HB1.out | exact below_drewN HB1.out _))).mono ?_
          rintro e w2 ⟨rfl, hb2⟩
          have hB2 : Below W0.heap.size W0 w2 := by first | exact HB1.out.trans (hb2.mono HB1.out.size) | exact (below_drew1 HB1.out).trans (hb2.mono HB1.out.size) | exact (below_drewN HB1.out _).trans (hb2.mono HB1.out.size)
          have HB2 := Lib.hid hB2
          have hkq := HKX.out w2 hB2
          have q0 := hkq.1.c0
          have q1 := hkq.1.c1
          have q2 := hkq.1.c2
          have q3 := hkq.2.c0
          have q4 := hkq.2.c1
          have q5 := hkq.2.c2
          clear hb2 hB2 hkq
          go_upto_region 3 with fail
          clear e1 e2
        case' inr =>
          have e1 : ((ch1 : Int) == (ch2 : Int)) = false := by rw [beq_eq_false_iff_ne]; omega
          clear hch
          go_wp2_with fail
          refine (HCK1.out _ (HBW.out _ (by first | exact Below.refl _ _ | exact below_drew1 (Below.refl _ _) | exact below_drewN (Below.refl _ _) _))).mono ?_
          rintro e w1 ⟨rfl, hb1⟩
          have hB1 : Below W0.heap.size W0 w1 := by first | exact hb1 | exact (below_drew1 (Below.refl _ _)).trans (hb1.mono (Nat.le_refl _)) | exact (below_drewN (Below.refl _ _) _).trans (hb1.mono (Nat.le_refl _))
          have HB1 := Lib.hid hB1
          have hkp := HKX.out w1 hB1
          have p0 := hkp.1.c0
          have p1 := hkp.1.c1
          have p2 := hkp.1.c2
          have p3 := hkp.2.c0
          have p4 := hkp.2.c1
          have p5 := hkp.2.c2
          clear hb1 hB1 hkp
          go_wp2_with fail
          refine (HCK2.out _ (HBW.out _ (by first | exact HB1.out | exact below_drew1 HB1.out | exact below_drewN HB1.out _))).mono ?_
          rintro e w2 ⟨rfl, hb2⟩
          have hB2 : Below W0.heap.size W0 w2 := by first | exact HB1.out.trans (hb2.mono HB1.out.size) | exact (below_drew1 HB1.out).trans (hb2.mono HB1.out.size) | exact (below_drewN HB1.out _).trans (hb2.mono HB1.out.size)
          have HB2 := Lib.hid hB2
          have hkq := HKX.out w2 hB2
          have q0 := hkq.1.c0
          have q1 := hkq.1.c1
          have q2 := hkq.1.c2
          have q3 := hkq.2.c0
          have q4 := hkq.2.c1
          have q5 := hkq.2.c2
          clear hb2 hB2 hkq
          go_upto_region 3 with fail
          clear e1
        all_goals
          clear x0 x1 x2 y0 y1 y2 p0 p1 p2 p3 p4 p5
          obtain ⟨hn1, hz1⟩ := segs_ok HR.out.1.symm
          obtain ⟨hn2, hz2⟩ := segs_ok HR.out.2.symm
          have HZ := Lib.hid (And.intro hz1 hz2)
          clear hz1 hz2
          go_wp2_with fail
          go_loopw [7, 8] (fun n i wr => ∃ (j x : Nat), j ≤ l1.length ∧ x ≤ 20000 * j ∧ n = .int .i64 x ∧ i = .int .i64 j ∧ wr = w2) (fun _ i _ => l1.length - (intOf i).toNat)
          case atStart => exact ⟨0, 0, by omega, by omega, rfl, rfl, rfl⟩
          case round =>
            obtain ⟨j, x, hj, hx, rfl, rfl, rfl⟩ := hrel
            by_cases hlt : j < l1.length
            · have hjl : (j : Int) < (l1.length : Int) := by omega
              obtain ⟨o, rfl, hd, hcl⟩ := (HSH.out _ (HBW.out _ HB2.out)).1.at_ (by omega)
              obtain ⟨z0, z1⟩ := sg_cell hcl hlt
              have hzj := HZ.out.1 _ (List.getElem_mem hlt)
              clear hcl
              generalize l1[j] = s at *
              obtain ⟨st, sp⟩ := s
              simp only [] at *
              obtain ⟨y, hy⟩ : ∃ y, y = x + sp.size := ⟨_, rfl⟩
              have e3 : (x : Int) + (sp.size : Int) = (y : Int) := by omega
              have E3 := Lib.hid (show wrap64 ((x : Int) + (sp.size : Int)) = (y : Int) ∧ IntKind.i64.wrap ((x : Int) + (sp.size : Int)) = (y : Int) by rw [e3]; exact ⟨w64_id _ (by omega) (by omega), i64_id _ (by omega) (by omega)⟩)
              have hy2 : y ≤ 20000 * (j + 1) := by omega
              clear hy e3
              have g1 := E3.out.1
              have g2 := E3.out.2
              go_wp2_with fail
              go_roundw
              case rel => exact ⟨j + 1, y, by omega, by omega, by go_num, by go_num, by first | trivial | rfl⟩
              case measure => simp [intOf]; omega
            · have hjl : ¬ (j : Int) < (l1.length : Int) := by omega
              have hx3 : x ≤ 60000 := by omega
              rename World => w3
              clear hlt hj hx
              go_wp2_with fail
              clear hjl
              go_loopw [7, 9] (fun n i wr => ∃ (j y : Nat), j ≤ l2.length ∧ y ≤ 60000 + 20000 * j ∧ n = .int .i64 y ∧ i = .int .i64 j ∧ wr = w3) (fun _ i _ => l2.length - (intOf i).toNat)
              case atStart => exact ⟨0, x, by omega, by omega, rfl, rfl, rfl⟩
              case round =>
                clear hx3
                obtain ⟨j, x, hj, hx, rfl, rfl, rfl⟩ := hrel
                by_cases hlt : j < l2.length
                · have hjl : (j : Int) < (l2.length : Int) := by omega
                  obtain ⟨o, rfl, hd, hcl⟩ := (HSH.out _ (HBW.out _ HB2.out)).2.1.at_ (by omega)
                  obtain ⟨z0, z1⟩ := sg_cell hcl hlt
                  have hzj := HZ.out.2 _ (List.getElem_mem hlt)
                  clear hcl
                  generalize l2[j] = s at *
                  obtain ⟨st, sp⟩ := s
                  simp only [] at *
                  obtain ⟨y, hy⟩ : ∃ y, y = x + sp.size := ⟨_, rfl⟩
                  have e3 : (x : Int) + (sp.size : Int) = (y : Int) := by omega
                  have E3 := Lib.hid (show wrap64 ((x : Int) + (sp.size : Int)) = (y : Int) ∧ IntKind.i64.wrap ((x : Int) + (sp.size : Int)) = (y : Int) by rw [e3]; exact ⟨w64_id _ (by omega) (by omega), i64_id _ (by omega) (by omega)⟩)
                  have hy2 : y ≤ 60000 + 20000 * (j + 1) := by omega
                  clear hy e3
                  have g1 := E3.out.1
                  have g2 := E3.out.2
                  go_wp2_with fail
                  go_roundw
                  case rel => exact ⟨j + 1, y, by omega, by omega, by go_num, by go_num, by first | trivial | rfl⟩
                  case measure => simp [intOf]; omega
                · have hjl : ¬ (j : Int) < (l2.length : Int) := by omega
                  rename World => w3
                  clear hlt hj hx
                  by_cases h300 : 300 < x
                  · have i1 : (300 : Int) < (x : Int) := by omega
                    go_wp2_with fail
                    refine (HH.out _).mono ?_
                    rintro e w9 ⟨rfl, hb9⟩
                    have hB9 : Below W0.heap.size W0 w9 := by first | exact HB2.out.trans (hb9.mono HB2.out.size) | exact (below_drew1 HB2.out).trans (hb9.mono HB2.out.size) | exact (below_drewN HB2.out _).trans (hb9.mono HB2.out.size)
                    go_wp2_with fail
                    go_ret
                    exact ⟨rfl, HBW.out _ hB9⟩
                  · have i1 : ¬ (300 : Int) < (x : Int) := by omega
                    have hck1 := HR.out.1.symm
                    have hck2 := HR.out.2.symm
                    have hokf1 := frames_ok (n := 2) (by omega) (by omega) hch1 hck1
                    have hokf2 := frames_ok (n := 3) (by omega) (by omega) hch2 hck2
                    have hrun1 := run_cut (n := 2) (by omega) (by omega) ch1 hck1
                    have hrun2 := run_cut (n := 3) (by omega) (by omega) ch2 hck2
                    have hcut1 : cutD 2 k1 ch1 l1 = (framesD 2 k1 ch1 true l1, 0) := by
                      unfold cutD
                      rw [if_neg (by omega), if_neg (by rw [hck1]; omega)]
                      rfl
                    have hcut2 : cutD 3 k2 ch2 l2 = (framesD 3 k2 ch2 true l2, 0) := by
                      unfold cutD
                      rw [if_neg (by omega), if_neg (by rw [hck2]; omega)]
                      rfl
                    have hfl1 := framesD_most (n := 2) (k := k1) (ch := ch1) (by omega) l1 true
                    have hfl2 := framesD_most (n := 3) (k := k2) (ch := ch2) (by omega) l2 true
                    have hsm1 := (checkA_zero hck1).2
                    have hsm2 := (checkA_zero hck2).2
                    generalize framesD 2 k1 ch1 true l1 = FA at *
                    generalize framesD 3 k2 ch2 true l2 = FB at *
                    have HC1 : Hid (∀ (w' : World), Below W0.heap.size W0 w' → Calls Try.prog 13 #[.agg #[.int .u16 ch1, .int .u8 k1, .slice A1 l1.length c1], .int .i64 2] w' fun e w'' => ∃ v, e = .returned (.tuple #[v, .int .i64 0]) ∧ OwnG frC 30 w'' w'.heap.size v FA ∧ Below w'.heap.size w' w'') := Lib.hid fun w' hb => by
                      have := gcut_any ch1 k1 2 A1 c1 d1 l1 w' (HSH.out _ (HBW.out _ hb)).1 (by omega) (fun s hs => (HOK.out.1 s hs).2)
                      rw [hcut1] at this
                      exact this
                    have HC2 : Hid (∀ (w' : World), Below W0.heap.size W0 w' → Calls Try.prog 13 #[.agg #[.int .u16 ch2, .int .u8 k2, .slice A2 l2.length c2], .int .i64 3] w' fun e w'' => ∃ v, e = .returned (.tuple #[v, .int .i64 0]) ∧ OwnG frC 30 w'' w'.heap.size v FB ∧ Below w'.heap.size w' w'') := Lib.hid fun w' hb => by
                      have := gcut_any ch2 k2 3 A2 c2 d2 l2 w' (HSH.out _ (HBW.out _ hb)).2.1 (by omega) (fun s hs => (HOK.out.2 s hs).2)
                      rw [hcut2] at this
                      exact this
                    have hFA : FA.length ≤ 20000 := by omega
                    have hFB : FB.length ≤ 20000 := by omega
                    have hFA0 : 0 < FA.length := List.length_pos_iff.2 (run_ne hrun1)
                    have hFB0 : 0 < FB.length := List.length_pos_iff.2 (run_ne hrun2)
                    have HF := Lib.hid (And.intro hrun1 (And.intro hrun2 (And.intro hokf1 hokf2)))
                    clear hck1 hck2 hokf1 hokf2 hrun1 hrun2 hcut1 hcut2 hfl1 hfl2 hsm1 hsm2
                    go_wp2_with fail
                    refine (HC1.out _ (by first | exact HB2.out | exact below_drew1 HB2.out | exact below_drewN HB2.out _)).mono ?_
                    rintro e w5 ⟨v5, rfl, ho5, hb5⟩
                    have hB5 : Below W0.heap.size W0 w5 := by first | exact HB2.out.trans (hb5.mono HB2.out.size) | exact (below_drew1 HB2.out).trans (hb5.mono HB2.out.size) | exact (below_drewN HB2.out _).trans (hb5.mono HB2.out.size)
                    have HB5 := Lib.hid hB5
                    have hk5 := HKX.out w5 hB5
                    have r3 := hk5.2.c0
                    have r4 := hk5.2.c1
                    have r5 := hk5.2.c2
                    obtain ⟨A5, c5, rfl, _, _⟩ := ho5.form
                    obtain ⟨d5, _, hS5⟩ := ho5.shows
                    have HS5 := Lib.hid hS5
                    clear hb5 hB5 hk5 ho5 hS5 q0 q1 q2 q3 q4 q5
                    go_wp2_with fail
                    refine (HC2.out _ (by first | exact HB5.out | exact below_drew1 HB5.out | exact below_drewN HB5.out _)).mono ?_
                    rintro e w6 ⟨v6, rfl, ho6, hb6⟩
                    have hb6' : Below w5.heap.size w5 w6 := by first | exact hb6 | exact (below_drew1 (Below.refl _ _)).trans (hb6.mono (Nat.le_refl _)) | exact (below_drewN (Below.refl _ _) _).trans (hb6.mono (Nat.le_refl _))
                    have HB6 := Lib.hid (HB5.out.trans (hb6'.mono HB5.out.size))
                    obtain ⟨A6, c6, rfl, _, _⟩ := ho6.form
                    obtain ⟨d6, _, hS6⟩ := ho6.shows
                    have HS6 := Lib.hid (And.intro (HS5.out.below' hb6' (Nat.le_refl _)) hS6)
                    clear hb6 hb6' ho6 hS6 r3 r4 r5 HS5
                    go_wp2_with fail
                    refine (HNEW.out _).mono ?_
                    rintro e w7 ⟨gb, F7, rfl, hg7, hb7⟩
                    have HB7 := Lib.hid (And.intro hg7 hb7)
                    have hs7 := hb7.size
                    have hs6 := HB6.out.size
                    clear hg7 hb7
                    go_wp2_with fail
                    have HS0 : Hid (BkS w6 gb FA FB l1 l2 (ch1, k1) (ch2, k2) 0 0 w7) := Lib.hid ⟨HB7.out.2, [], F7, none, none, HB7.out.1, Two.nil _ _, fun _ => by simpa using HF.out.1, fun h => by omega, fun _ => by simpa using HF.out.2.1, fun h => by omega⟩
                    go_loopw [15, 16, 17] (fun x y t wr => ∃ (a b c : Nat), a ≤ FA.length ∧ b ≤ FB.length ∧ c ≤ 40000 ∧ x = .int .i64 a ∧ y = .int .i64 b ∧ t = .int .i64 c ∧ Hid (c = a + b) ∧ Hid (BkS w6 gb FA FB l1 l2 (ch1, k1) (ch2, k2) a b wr)) (fun x y _ _ => FA.length + FB.length - ((intOf x).toNat + (intOf y).toNat))
                    case atStart => exact ⟨0, 0, 0, by omega, by omega, by omega, rfl, rfl, rfl, Lib.hid rfl, Lib.hid (HS0.out.keep (by first | exact Below.refl _ _ | exact below_drewN (Below.refl _ _) _ | exact below_drew1 (Below.refl _ _)))⟩
                    case round =>
                      obtain ⟨a, b, c, ha, hb, hc, rfl, rfl, rfl, HC, HQ⟩ := hrel
                      rename World => V
                      have HBV := Lib.hid (HB6.out.trans (HQ.out.1.mono HB6.out.size))
                      by_cases hdone : a = FA.length ∧ b = FB.length
                      · obtain ⟨rfl, rfl⟩ := hdone
                        obtain ⟨hbV, M, F, oa, ob, hG, hT, _, hna, _, hnb⟩ := HQ.out
                        obtain rfl := hna rfl
                        obtain rfl := hnb rfl
                        obtain rfl := hT.none_
                        have hop := Lib.hid (show Calls Try.prog 10 #[.pointer (some ⟨gb, 0, none⟩)] V fun e w'' => e = .returned (.int .i64 0) ∧ w'' = V from gopen_any V _ gb (some []) F hG)
                        clear hbV hG hT hna hnb HQ
                        go_wp2_with fail
                        refine hop.out.mono ?_
                        rintro e w8 ⟨rfl, rfl⟩
                        go_wp2_with fail
                        refine (HH.out _).mono ?_
                        rintro e w9 ⟨rfl, hb9⟩
                        go_wp2_with fail
                        go_ret
                        exact ⟨rfl, HBW.out _ (HBV.out.trans (hb9.mono HBV.out.size))⟩
                      · have hT : ∃ tb : Bool, c < ts.length → ∃ o3, A3 = some ⟨d3, o3, none⟩ ∧ V.cell? ⟨d3, o3 + c, none⟩ = some (.bool tb) := by
                          by_cases hct : c < ts.length
                          · obtain ⟨o3, h3, _, hcl⟩ := (HSH.out V (HBW.out _ HBV.out)).2.2.at_ (by omega)
                            have := hcl c hct 0 (by decide)
                            refine ⟨ts[c], fun _ => ⟨o3, h3, ?_⟩⟩
                            simpa [boC] using this
                          · exact ⟨false, fun h => absurd h hct⟩
                        obtain ⟨tb, hT⟩ := hT
                        have hway2 : a < FA.length ∨ (¬ a < FA.length ∧ b < FB.length) := by omega
                        have HND := Lib.hid hdone
                        clear hdone
                        rcases hway2 with hal | ⟨hal, hbl⟩
                        case' inl =>
                          have i1 : (a : Int) < (FA.length : Int) := by omega
                          go_upto_region 23 with fail
                          clear i1 hal
                        case' inr =>
                          have i1 : ¬ (a : Int) < (FA.length : Int) := by omega
                          have i2 : (b : Int) < (FB.length : Int) := by omega
                          go_upto_region 23 with fail
                          clear i1 i2 hal hbl
                        all_goals
                          go_cut [18] from 112 to 121 (fun v wx => ∃ f0 : Bool, v = .bool f0 ∧ wx = V)
                          case first =>
                            by_cases hct : c < ts.length
                            · have i4 : (c : Int) < (ts.length : Int) := by omega
                              obtain ⟨o3, rfl, hct⟩ := hT hct
                              clear hT
                              go_wp2_with fail
                              go_meet
                              exact ⟨_, rfl, rfl⟩
                            · have i4 : ¬ (c : Int) < (ts.length : Int) := by omega
                              clear hT
                              go_wp2_with fail
                              go_meet
                              exact ⟨_, rfl, rfl⟩
                          case rest =>
                            obtain ⟨f0, rfl, rfl⟩ := hcut
                            clear hT
                            rename World => V
                            obtain ⟨eA, hEA⟩ : ∃ e : Bool, ((a : Int) == (FA.length : Int)) = e := ⟨_, rfl⟩
                            have HEA : Hid (eA = true ↔ a = FA.length) := Lib.hid (by rw [← hEA, beq_iff_eq]; omega)
                            go_upto_if 125 with fail
                            clear hEA
                            go_cut [18] from 126 to 129 (fun v wx => ∃ f1 : Bool, v = .bool f1 ∧ (f1 = true → a < FA.length) ∧ wx = V)
                            case first =>
                              cases eA with
                              | true =>
                                go_wp2_with fail
                                go_meet
                                exact ⟨_, rfl, (fun h => by cases h), rfl⟩
                              | false =>
                                go_wp2_with fail
                                go_meet
                                exact ⟨_, rfl, (fun _ => by
                                  have h1 : ¬ a = FA.length := fun e => (by cases HEA.out.2 e)
                                  omega), rfl⟩
                            case rest =>
                              obtain ⟨f1, rfl, hf1, rfl⟩ := hcut
                              have HF1 := Lib.hid hf1
                              clear hf1 HEA
                              rename World => V
                              obtain ⟨eB, hEB⟩ : ∃ e : Bool, ((b : Int) == (FB.length : Int)) = e := ⟨_, rfl⟩
                              have HEB : Hid (eB = true ↔ b = FB.length) := Lib.hid (by rw [← hEB, beq_iff_eq]; omega)
                              go_upto_if 129 with fail
                              clear hEB
                              go_cut [18] from 130 to 131 (fun v wx => ∃ f2 : Bool, v = .bool f2 ∧ (f2 = true → a < FA.length) ∧ (f2 = false → b < FB.length) ∧ wx = V)
                              case first =>
                                cases eB with
                                | true =>
                                  go_wp2_with fail
                                  go_meet
                                  exact ⟨_, rfl, (fun _ => by
                                    have := HND.out
                                    have := HEB.out.1 (by first | exact rfl | trivial)
                                    omega), (fun h => by cases h), rfl⟩
                                | false =>
                                  go_wp2_with fail
                                  go_meet
                                  exact ⟨_, rfl, HF1.out, (fun _ => by
                                    have h1 : ¬ b = FB.length := fun e => (by cases HEB.out.2 e)
                                    omega), rfl⟩
                              case rest =>
                                obtain ⟨f2, rfl, hfa, hfb, rfl⟩ := hcut
                                have HFAB := Lib.hid (And.intro hfa hfb)
                                clear hfa hfb HEB
                                rename World => V
                                have hkV := HKX.out V HBV.out
                                have v3 := hkV.2.c0
                                have v4 := hkV.2.c1
                                have v5 := hkV.2.c2
                                clear hkV
                                go_upto_if 132 with fail
                                have hv1 : Below V.heap.size V ((V.alloc (Obj.cells #[.int .u16 ch2, .int .u8 k2, .slice A2 l2.length c2] 34)).alloc (Obj.cells #[.bool false, .bool false, .bool false, .bool false, .int .u8 0, .int .u8 0, .int .u16 0, .string ⟨#[]⟩] 30)) := (f_below_box V _).alloc (by simp) _
                                have hXw : BoxA ((V.alloc (Obj.cells #[.int .u16 ch2, .int .u8 k2, .slice A2 l2.length c2] 34)).alloc (Obj.cells #[.bool false, .bool false, .bool false, .bool false, .int .u8 0, .int .u8 0, .int .u16 0, .string ⟨#[]⟩] 30)) V.heap.size ch2 k2 (.slice A2 l2.length c2) := (BoxA.new V ch2 k2 (.slice A2 l2.length c2)).kept (f_below_box _ _) (Nat.le_refl _)
                                have hXf : BoxF ((V.alloc (Obj.cells #[.int .u16 ch2, .int .u8 k2, .slice A2 l2.length c2] 34)).alloc (Obj.cells #[.bool false, .bool false, .bool false, .bool false, .int .u8 0, .int .u8 0, .int .u16 0, .string ⟨#[]⟩] 30)) (V.heap.size + 1) fr0 := by
                                  have := BoxF.new (V.alloc (Obj.cells #[.int .u16 ch2, .int .u8 k2, .slice A2 l2.length c2] 34)) fr0
                                  rw [World.size_alloc] at this
                                  exact this
                                generalize (V.alloc (Obj.cells #[.int .u16 ch2, .int .u8 k2, .slice A2 l2.length c2] 34)).alloc (Obj.cells #[.bool false, .bool false, .bool false, .bool false, .int .u8 0, .int .u8 0, .int .u16 0, .string ⟨#[]⟩] 30) = V1 at *
                                have HV1 := Lib.hid (And.intro hv1 (And.intro hXw hXf))
                                have hVV : V.heap.size + 1 < V1.heap.size := hXf.lt
                                clear hv1 hXw hXf v3 v4 v5
                                go_cut [15, 16, 21] from 133 to 153 (fun x y z wx => ∃ (a' b' : Nat) (last : Bool), x = .int .i64 a' ∧ y = .int .i64 b' ∧ z = .bool last ∧ a' ≤ FA.length ∧ b' ≤ FB.length ∧ Hid (a' + b' = a + b + 1) ∧ Hid (∃ f, Below V.heap.size V wx ∧ BoxF wx (V.heap.size + 1) f ∧ ∃ ch k A cc d lw, BoxA wx V.heap.size ch k (.slice A lw.length cc) ∧ lw.length ≤ 3 ∧ (∀ w', Below w.heap.size w w' → ShowsG sgC w' d (.slice A lw.length cc) lw) ∧ ∀ w', Below V.heap.size V w' → Calls Try.prog 7 #[.pointer (some ⟨gb, 0, none⟩), .agg f.vs.toArray] w' (FedSaid V.heap.size w' ch k lw last (BkS w6 gb FA FB l1 l2 (ch1, k1) (ch2, k2) a' b'))))
                                case first =>
                                  cases f2 with
                                  | true =>
                                    have hal := HFAB.out.1 (by first | exact rfl | trivial)
                                    obtain ⟨hv1, hXw, hXf⟩ := HV1.out
                                    have hV1 : Below w6.heap.size w6 V1 := HQ.out.1.trans (hv1.mono HQ.out.1.size)
                                    have hk1 := HKX.out V1 (HB6.out.trans (hV1.mono HB6.out.size))
                                    have u0 := hk1.1.c0
                                    have u1 := hk1.1.c1
                                    have u2 := hk1.1.c2
                                    obtain ⟨o5, rfl, hd5, hcl5⟩ := (HS6.out.1.below' hV1 (Nat.le_refl _)).at_ (by omega)
                                    obtain ⟨x0, x1, x2, x3, x4, x5, x6, x7⟩ := fr_cell hcl5 hal
                                    obtain ⟨a1, ha1⟩ : ∃ a1, a1 = a + 1 := ⟨_, rfl⟩
                                    obtain ⟨lst, hlst⟩ : ∃ lst, lst = decide (a1 = FA.length) := ⟨_, rfl⟩
                                    have hfed : ∀ w' (hb' : Below V.heap.size V w'), Calls Try.prog 7 #[.pointer (some ⟨gb, 0, none⟩), .agg FA[a].vs.toArray] w' (FedSaid V.heap.size w' ch1 k1 l1 lst (BkS w6 gb FA FB l1 l2 (ch1, k1) (ch2, k2) a1 b)) := fun w' hb' => by
                                      rw [hlst, ha1]
                                      exact HQ.out.feed hb' HPN.out (fun f hf => HF.out.2.2.1 f hf) hal
                                    have e3 : (a : Int) + 1 = (a1 : Int) := by omega
                                    have E3 := Lib.hid (show wrap64 ((a : Int) + 1) = (a1 : Int) ∧ IntKind.i64.wrap ((a : Int) + 1) = (a1 : Int) by rw [e3]; exact ⟨w64_id _ (by omega) (by omega), i64_id _ (by omega) (by omega)⟩)
                                    have eq1 : ((a1 : Int) == (FA.length : Int)) = lst := by
                                      rw [hlst, Bool.eq_iff_iff, beq_iff_eq, decide_eq_true_eq]
                                      omega
                                    have HA1 := Lib.hid (show a1 + b = a + b + 1 by omega)
                                    have ha1l : a1 ≤ FA.length := by omega
                                    clear hlst ha1 e3
                                    have hd5l := HS6.out.1.lt (by omega)
                                    have hbs := HQ.out.1.size
                                    generalize FA[a] = f at *
                                    have hpk := pick_store hv1 hXw hXf ch1 k1 (.slice A1 l1.length c1) f
                                    have HFED := Lib.hid hfed
                                    obtain ⟨fa, fb, fc, fd, ft, fk, fch, fp⟩ := f
                                    dsimp only at hpk x0 x1 x2 x3 x4 x5 x6 x7
                                    have HPK := Lib.hid hpk
                                    have hw0 : ∀ i, V1.frozen? ⟨V.heap.size, i, none⟩ = false := fun i => frozen_of_row V1 V.heap.size i _ 34 hXw
                                    have hf0 : ∀ i, V1.frozen? ⟨V.heap.size + 1, i, none⟩ = false := fun i => hXf.fr i
                                    have ne1 : ¬ d5 = V.heap.size := by omega
                                    have ne2 : ¬ V.heap.size = d5 := by omega
                                    have ne3 : ¬ d5 = V.heap.size + 1 := by omega
                                    have ne4 : ¬ V.heap.size + 1 = d5 := by omega
                                    have hw00 := hw0 0
                                    have m0 := hXw.c0
                                    have hw01 := hw0 1
                                    have m1 := hXw.c1
                                    have hw02 := hw0 2
                                    have m2 := hXw.c2
                                    have hf00 := hf0 0
                                    have n0 := hXf.c0
                                    have hf01 := hf0 1
                                    have n1 := hXf.c1
                                    have hf02 := hf0 2
                                    have n2 := hXf.c2
                                    have hf03 := hf0 3
                                    have n3 := hXf.c3
                                    have hf04 := hf0 4
                                    have n4 := hXf.c4
                                    have hf05 := hf0 5
                                    have n5 := hXf.c5
                                    have hf06 := hf0 6
                                    have n6 := hXf.c6
                                    have hf07 := hf0 7
                                    have n7 := hXf.c7
                                    have i1 : (a : Int) < (FA.length : Int) := by omega
                                    clear hk1 hcl5 hv1 hXw hXf hV1 hpk hfed hw0 hf0
                                    have z1 := E3.out.1
                                    have z2 := E3.out.2
                                    go_upto_region 30 with fail
                                    go_region
                                    all_goals
                                      clear x0 x1 x2 x3 x4 x5 x6 x7 m0 m1 m2 n0 n1 n2 n3 n4 n5 n6 n7 hw00 hw01 hw02 hf00 hf01 hf02 hf03 hf04 hf05 hf06 hf07 u0 u1 u2 ne1 ne2 ne3 ne4
                                      have hpk := HPK.out
                                      unfold pickW at hpk
                                      dsimp only at hpk
                                      generalize World.setCell _ ⟨V.heap.size + 1, 7, none⟩ (.string fp) = W11 at *
                                      have HPK := Lib.hid hpk
                                      clear hpk
                                      go_wp2_with fail
                                      go_meet
                                      exact ⟨a1, b, lst, by first | rfl | go_num, rfl, rfl, ha1l, hb, Lib.hid HA1.out, Lib.hid ⟨⟨fa, fb, fc, fd, ft, fk, fch, fp⟩, below_drew1 HPK.out.1, HPK.out.2.2, ch1, k1, A1, c1, d1, l1, HPK.out.2.1, hn1, fun w' hb' => (HSH.out w' hb').1, HFED.out⟩⟩
                                  | false =>
                                    have hbl := HFAB.out.2 (by first | exact rfl | trivial)
                                    obtain ⟨hv1, hXw, hXf⟩ := HV1.out
                                    have hV1 : Below w6.heap.size w6 V1 := HQ.out.1.trans (hv1.mono HQ.out.1.size)
                                    obtain ⟨o6, rfl, hd6, hcl5⟩ := (HS6.out.2.below' hV1 (Nat.le_refl _)).at_ (by omega)
                                    obtain ⟨x0, x1, x2, x3, x4, x5, x6, x7⟩ := fr_cell hcl5 hbl
                                    obtain ⟨a1, ha1⟩ : ∃ a1, a1 = b + 1 := ⟨_, rfl⟩
                                    obtain ⟨lst, hlst⟩ : ∃ lst, lst = decide (a1 = FB.length) := ⟨_, rfl⟩
                                    have hfed : ∀ w' (hb' : Below V.heap.size V w'), Calls Try.prog 7 #[.pointer (some ⟨gb, 0, none⟩), .agg FB[b].vs.toArray] w' (FedSaid V.heap.size w' ch2 k2 l2 lst (BkS w6 gb FA FB l1 l2 (ch1, k1) (ch2, k2) a a1)) := fun w' hb' => by
                                      rw [hlst, ha1]
                                      exact (HQ.out.swap.feed hb' HPN.out.symm (fun f hf => HF.out.2.2.2 f hf) hbl).mono fun _ _ h => h.swap
                                    have e3 : (b : Int) + 1 = (a1 : Int) := by omega
                                    have E3 := Lib.hid (show wrap64 ((b : Int) + 1) = (a1 : Int) ∧ IntKind.i64.wrap ((b : Int) + 1) = (a1 : Int) by rw [e3]; exact ⟨w64_id _ (by omega) (by omega), i64_id _ (by omega) (by omega)⟩)
                                    have eq1 : ((a1 : Int) == (FB.length : Int)) = lst := by
                                      rw [hlst, Bool.eq_iff_iff, beq_iff_eq, decide_eq_true_eq]
                                      omega
                                    have HA1 := Lib.hid (show a + a1 = a + b + 1 by omega)
                                    have ha1l : a1 ≤ FB.length := by omega
                                    clear hlst ha1 e3
                                    have hd6l := HS6.out.2.lt (by omega)
                                    have hbs := HQ.out.1.size
                                    generalize FB[b] = f at *
                                    have hpk := box_store hv1 hXw hXf f
                                    have HFED := Lib.hid hfed
                                    obtain ⟨fa, fb, fc, fd, ft, fk, fch, fp⟩ := f
                                    dsimp only at hpk x0 x1 x2 x3 x4 x5 x6 x7
                                    have HPK := Lib.hid hpk
                                    have hw0 : ∀ i, V1.frozen? ⟨V.heap.size, i, none⟩ = false := fun i => frozen_of_row V1 V.heap.size i _ 34 hXw
                                    have hf0 : ∀ i, V1.frozen? ⟨V.heap.size + 1, i, none⟩ = false := fun i => hXf.fr i
                                    have ne1 : ¬ d6 = V.heap.size := by omega
                                    have ne2 : ¬ V.heap.size = d6 := by omega
                                    have ne3 : ¬ d6 = V.heap.size + 1 := by omega
                                    have ne4 : ¬ V.heap.size + 1 = d6 := by omega
                                    have hw00 := hw0 0
                                    have m0 := hXw.c0
                                    have hw01 := hw0 1
                                    have m1 := hXw.c1
                                    have hw02 := hw0 2
                                    have m2 := hXw.c2
                                    have hf00 := hf0 0
                                    have n0 := hXf.c0
                                    have hf01 := hf0 1
                                    have n1 := hXf.c1
                                    have hf02 := hf0 2
                                    have n2 := hXf.c2
                                    have hf03 := hf0 3
                                    have n3 := hXf.c3
                                    have hf04 := hf0 4
                                    have n4 := hXf.c4
                                    have hf05 := hf0 5
                                    have n5 := hXf.c5
                                    have hf06 := hf0 6
                                    have n6 := hXf.c6
                                    have hf07 := hf0 7
                                    have n7 := hXf.c7
                                    have i1 : (b : Int) < (FB.length : Int) := by omega
                                    clear hcl5 hv1 hXw hXf hV1 hpk hfed hw0 hf0
                                    have z1 := E3.out.1
                                    have z2 := E3.out.2
                                    go_upto_region 33 with fail
                                    go_wp2_with fail
                                    go_meet
                                    exact ⟨a, a1, lst, rfl, by first | rfl | go_num, rfl, ha, ha1l, Lib.hid HA1.out, Lib.hid ⟨⟨fa, fb, fc, fd, ft, fk, fch, fp⟩, (by first | exact HPK.out.1 | exact below_drew1 HPK.out.1), HPK.out.2.2, ch2, k2, A2, c2, d2, l2, HPK.out.2.1, hn2, fun w' hb' => (HSH.out w' hb').2.1, HFED.out⟩⟩
                                case rest =>
                                  obtain ⟨a', b', last, rfl, rfl, rfl, ha', hb', HAB, HP⟩ := hcut
                                  rename World => W2
                                  obtain ⟨⟨fa, fb, fc, fd, ft, fk, fch, fp⟩, hbx, hXf, ch, k, A7, c7, d7, lw, hXw, hlw, hsh, hfed⟩ := HP.out
                                  have HFED := Lib.hid (hfed W2 hbx)
                                  have HSHW := Lib.hid hsh
                                  have HXW := Lib.hid hXw
                                  have HBX := Lib.hid hbx
                                  have x0 := hXf.c0
                                  have x1 := hXf.c1
                                  have x2 := hXf.c2
                                  have x3 := hXf.c3
                                  have x4 := hXf.c4
                                  have x5 := hXf.c5
                                  have x6 := hXf.c6
                                  have x7 := hXf.c7
                                  dsimp only at x0 x1 x2 x3 x4 x5 x6 x7
                                  have hlt2 : V.heap.size + 1 < W2.heap.size := hXf.lt
                                  clear hbx hXf hXw hsh hfed HP
                                  go_upto_region 36 with fail
                                  go_wp2_with fail
                                  refine HFED.out.mono ?_
                                  rintro e w8 ⟨v8, rc, rk, rl, rfl, ho8, hT8, hF8, hR8, hs8, hk8⟩
                                  have hbn := f_below_box w8 (Obj.cells #[.int .u16 rc, .int .u8 rk, v8] 34)
                                  have hX8 := BoxA.new w8 rc rk v8
                                  have hY8 : BoxA (w8.alloc (Obj.cells #[.int .u16 rc, .int .u8 rk, v8] 34)) V.heap.size ch k (.slice A7 lw.length c7) := ((hbn.block _ (by omega)).trans (hk8 V.heap.size (Nat.le_refl _) (by omega))).trans HXW.out
                                  have hO8 : OwnG sgC 46 (w8.alloc (Obj.cells #[.int .u16 rc, .int .u8 rk, v8] 34)) W2.heap.size v8 rl := ho8.below hbn (Nat.le_refl _)
                                  have hR9 := hR8.keep hbn
                                  obtain ⟨A8, c8, hv8, _, _⟩ := ho8.form
                                  clear x0 x1 x2 x3 x4 x5 x6 x7 hk8 hR8 ho8 hbn
                                  cases last with
                                  | true =>
                                    obtain ⟨rfl, rfl, rfl⟩ := hT8 rfl
                                    subst hv8
                                    have y0 := hX8.c0
                                    have y1 := hX8.c1
                                    have y2 := hX8.c2
                                    have y3 := hY8.c0
                                    have y4 := hY8.c1
                                    have y5 := hY8.c2
                                    obtain ⟨d8, _, hsw⟩ := hO8.shows
                                    clear hX8 hY8 hO8 hT8 hF8
                                    go_upto_region 37 with fail
                                    generalize w8.alloc _ = W9 at *
                                    generalize w8.heap.size = xb at *
                                    have HSAME := Lib.hid (fun w' (hb' : Below W9.heap.size W9 w') => (show Calls Try.prog 9 #[.agg #[.int .u16 rc, .int .u8 rk, .slice A8 rl.length c8], .agg #[.int .u16 rc, .int .u8 rk, .slice A7 rl.length c7]] w' fun e w'' => e = .returned (.bool true) ∧ Below w'.heap.size w' w'' by
                                      have h9 := hR9.1
                                      have := asame_any rc rk rc rk A8 A7 c8 c7 d8 d7 rl rl w' (hsw.below' hb' (Nat.le_refl _)) (HSHW.out w' (HBW.out _ (HB6.out.trans ((h9.trans (hb'.mono h9.size)).mono HB6.out.size)))) (by omega) (by omega)
                                      rw [show decide (rc = rc ∧ rk = rk ∧ rl = rl) = true by simp] at this
                                      exact this))
                                    have HR9 := Lib.hid hR9
                                    clear hsw hR9
                                    go_wp2_with (go_at_call 9
                                                 refine (HSAME.out _ (by first | exact Below.refl _ _ | exact below_drewN (Below.refl _ _) _ | exact below_drew1 (Below.refl _ _))).mono ?_
                                                 rintro e wz ⟨rfl, hbz⟩
                                                 have hBz : Below W9.heap.size W9 wz := by first | exact hbz | exact (below_drew1 (Below.refl _ _)).trans (hbz.mono (Nat.le_refl _)) | exact (below_drewN (Below.refl _ _) _).trans (hbz.mono (Nat.le_refl _))
                                                 have HBZ := Lib.hid hBz
                                                 clear hbz hBz)
                                    go_roundw
                                    case rel => exact ⟨a', b', c + 1, ha', hb', (bk_nums HC.out HAB.out ha' hb' hFA hFB).1, rfl, rfl, by go_num, Lib.hid (bk_nums HC.out HAB.out ha' hb' hFA hFB).2.1, Lib.hid (HR9.out.keep HBZ.out)⟩
                                    case measure => exact (bk_nums HC.out HAB.out ha' hb' hFA hFB).2.2
                                  | false =>
                                    obtain ⟨rfl, rfl, rfl⟩ := hF8 rfl
                                    obtain rfl : v8 = .slice A8 0 c8 := hv8
                                    have y0 := hX8.c0
                                    have y1 := hX8.c1
                                    have y2 := hX8.c2
                                    have HR9 := Lib.hid hR9
                                    clear hX8 hY8 hO8 hT8 hF8 hR9
                                    go_upto_region 37 with fail
                                    generalize w8.alloc _ = W9 at *
                                    generalize w8.heap.size = xb at *
                                    go_wp2_with fail
                                    go_roundw
                                    case rel => exact ⟨a', b', c + 1, ha', hb', (bk_nums HC.out HAB.out ha' hb' hFA hFB).1, rfl, rfl, by go_num, Lib.hid (bk_nums HC.out HAB.out ha' hb' hFA hFB).2.1, Lib.hid (by first | exact HR9.out | exact HR9.out.keep (below_drew1 (Below.refl _ _)) | exact HR9.out.keep (below_drewN (Below.refl _ _) _))⟩
                                    case measure => exact (bk_nums HC.out HAB.out ha' hb' hFA hFB).2.2

    · have e1 : ((r2 : Int) != 0) = true := by simpa using hz2
      subst hz1
      go_wp2_with fail
      refine (HCK1.out _ (HBW.out _ (by first | exact Below.refl _ _ | exact below_drew1 (Below.refl _ _) | exact below_drewN (Below.refl _ _) _))).mono ?_
      rintro e w1 ⟨rfl, hb1⟩
      have hB1 : Below W0.heap.size W0 w1 := by first | exact hb1 | exact (below_drew1 (Below.refl _ _)).trans (hb1.mono (Nat.le_refl _)) | exact (below_drewN (Below.refl _ _) _).trans (hb1.mono (Nat.le_refl _))
      have HB1 := Lib.hid hB1
      have hkp := HKX.out w1 hB1
      have p0 := hkp.1.c0
      have p1 := hkp.1.c1
      have p2 := hkp.1.c2
      have p3 := hkp.2.c0
      have p4 := hkp.2.c1
      have p5 := hkp.2.c2
      clear hb1 hB1 hkp
      go_wp2_with fail
      refine (HCK2.out _ (HBW.out _ (by first | exact HB1.out | exact below_drew1 HB1.out | exact below_drewN HB1.out _))).mono ?_
      rintro e w2 ⟨rfl, hb2⟩
      have hB2 : Below W0.heap.size W0 w2 := by first | exact HB1.out.trans (hb2.mono HB1.out.size) | exact (below_drew1 HB1.out).trans (hb2.mono HB1.out.size) | exact (below_drewN HB1.out _).trans (hb2.mono HB1.out.size)
      have HB2 := Lib.hid hB2
      have hkq := HKX.out w2 hB2
      have q0 := hkq.1.c0
      have q1 := hkq.1.c1
      have q2 := hkq.1.c2
      have q3 := hkq.2.c0
      have q4 := hkq.2.c1
      have q5 := hkq.2.c2
      clear hb2 hB2 hkq
      go_wp2_with fail
      refine (HH.out _).mono ?_
      rintro e w9 ⟨rfl, hb9⟩
      have hB9 : Below W0.heap.size W0 w9 := by first | exact HB2.out.trans (hb9.mono HB2.out.size) | exact (below_drew1 HB2.out).trans (hb9.mono HB2.out.size) | exact (below_drewN HB2.out _).trans (hb9.mono HB2.out.size)
      go_wp2_with fail
      go_ret
      exact ⟨rfl, HBW.out _ hB9⟩
  · have e1 : ((r1 : Int) != 0) = true := by simpa using hz1
    go_wp2_with fail
    refine (HCK1.out _ (HBW.out _ (by first | exact Below.refl _ _ | exact below_drew1 (Below.refl _ _) | exact below_drewN (Below.refl _ _) _))).mono ?_
    rintro e w1 ⟨rfl, hb1⟩
    have hB1 : Below W0.heap.size W0 w1 := by first | exact hb1 | exact (below_drew1 (Below.refl _ _)).trans (hb1.mono (Nat.le_refl _)) | exact (below_drewN (Below.refl _ _) _).trans (hb1.mono (Nat.le_refl _))
    have HB1 := Lib.hid hB1
    have hkp := HKX.out w1 hB1
    have p0 := hkp.1.c0
    have p1 := hkp.1.c1
    have p2 := hkp.1.c2
    have p3 := hkp.2.c0
    have p4 := hkp.2.c1
    have p5 := hkp.2.c2
    clear hb1 hB1 hkp
    go_wp2_with fail
    refine (HH.out _).mono ?_
    rintro e w9 ⟨rfl, hb9⟩
    have hB9 : Below W0.heap.size W0 w9 := by first | exact HB1.out.trans (hb9.mono HB1.out.size) | exact (below_drew1 HB1.out).trans (hb9.mono HB1.out.size) | exact (below_drewN HB1.out _).trans (hb9.mono HB1.out.size)
    go_wp2_with fail
    go_ret
    exact ⟨rfl, HBW.out _ hB9⟩

end Go.Proofs.Ytocankfabgjjmaa
