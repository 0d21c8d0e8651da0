/-
  CrcThree: for every input the law returns true, and its arguments read as before; the table is tied to the program's text.
  Conditions: the package-level table reads as the program's own text lays it (the card ties it).
-/
import Derived.Test.YtelmbboapbmggaaDoorR
import Derived.Test.YtelmbboapbmggaaDoorCards
import Derived.Test.YtelmbboapbmggaaDoorTie
import Derived.BigRegion
import Derived.Deep.RegionHeld3
namespace Go.Proofs.YtelmbboapbmggaaDoor
open Go.ChangeShapes Go.WideShapes Go.ChangeAt Go.RowKit
set_option linter.unusedVariables false
set_option linter.unusedSimpArgs false

theorem sum_any' (A : Option Addr) (c n d : Nat) (l : List UInt8) (w : World) (hn : l.length = n) (h : Tab w) (hl : Shows w d (.slice A n c) l) (hb : n ≤ 140737488355328) :
    Calls Tryd.prog 10 #[.slice A n c] w fun e w' => e = .returned (.int .u32 (sum l : Nat)) ∧ w = w' := by
  subst hn
  exact sum_any A c d l w h hl hb
theorem below_drew1 {B : Nat} {a w : World} (h : Below B a w) : Below B a w.drew := ⟨h.os, h.tape, h.output, h.size, h.block⟩

theorem run_min3 {P : Program} (ts : Array TypeId) (t : TypeId) (a b c : Nat) (w : World) : (Builtin.min_ ts t #[.int .i64 (a : Int), .int .i64 (b : Int), .int .i64 (c : Int)]).run P w = .ok (.int .i64 ((min (min a b) c : Nat) : Int)) w := by
  simp [Builtin.min_, Builtin.min2]
  by_cases h1 : b < a
  · have h1' : (b : Int) < a := by omega
    simp [h1]
    by_cases h2 : c < b
    · simp [h2]; omega
    · simp [h2]; omega
  · simp [h1]
    by_cases h2 : c < a
    · simp [h2]; omega
    · simp [h2]; omega

set_option maxRecDepth 100000 in
set_option maxHeartbeats 1000000 in
theorem three_walk (A0 A1 A2 : Option Addr) (c0 c1 c2 d0 d1 d2 : Nat) (L0 L1 L2 : List UInt8) (w : World) (h : Tab w) (h0 : Shows w d0 (.slice A0 L0.length c0) L0) (h1 : Shows w d1 (.slice A1 L1.length c1) L1) (h2 : Shows w d2 (.slice A2 L2.length c2) L2)
    (hb : L0.length ≤ 140737488355328) :
    Calls Tryd.prog 9 #[.slice A0 L0.length c0, .slice A1 L1.length c1, .slice A2 L2.length c2] w fun e w' => e = .returned (.bool true) ∧ Below w.heap.size w w' := by
  obtain ⟨n, hn⟩ : ∃ n, n = min (min L0.length L1.length) L2.length := ⟨_, rfl⟩
  have n0 : n ≤ L0.length := by omega
  have n1 : n ≤ L1.length := by omega
  have n2 : n ≤ L2.length := by omega
  have hmin := run_min3 (P := Tryd.prog) #[3, 3, 3] 3 L0.length L1.length L2.length w
  rw [← hn] at hmin
  obtain ⟨_, l0, _⟩ := h0.lens
  obtain ⟨_, l1, _⟩ := h1.lens
  obtain ⟨_, l2, _⟩ := h2.lens
  have t0 := h0.head (k := n) n0
  have t1 := h1.head (k := n) n1
  have t2 := h2.head (k := n) n2
  generalize L0.length = m0 at *
  generalize L1.length = m1 at *
  generalize L2.length = m2 at *
  have e0 : (L0.take n).length = n := by have := t0.lens.1; omega
  have e1 : (L1.take n).length = n := by have := t1.lens.1; omega
  have e2 : (L2.take n).length = n := by have := t2.lens.1; omega
  generalize L0.take n = a at *
  generalize L1.take n = b at *
  generalize L2.take n = c at *
  have hX := x3_length a b c (by omega) (by omega)
  have hXg := x3_get a b c
  have hXs := sum_x3 a b c (by omega) (by omega)
  generalize x3 a b c = X at *
  have HXS := Lib.hid hXs
  have HXG := Lib.hid hXg
  have HX := Lib.hid hX
  have E0 := Lib.hid e0
  have E1 := Lib.hid e1
  have E2 := Lib.hid e2
  clear hXs hXg hX hn h0 h1 h2 e0 e1 e2
  go_enter Tryd.func9, Tryd.ntmps9
  go_wp2_with (at_make
               refine wpList_make8 _ rfl (.tmp 17) (.tmp 17) 23 5 rfl Tryd.underlying23 info5 (n : Int) n rfl rfl rfl (by omega) ?_
               intro w1 ho1 hg1)
  have hb1 : Below w.heap.size w w1 := (Below.refl _ _).grown hg1 (Nat.le_refl _) (by simp)
  go_loopw [9] (fun i wr => ∃ (k : Nat) (m : List UInt8), k ≤ n ∧ i = .int .i64 k ∧ m.length = n ∧ (∀ j, j < k → m[j]? = X[j]?) ∧ Own 5 wr w.heap.size (.slice (some ⟨w.heap.size, 0, none⟩) n n) m ∧ Below w.heap.size w wr) (fun i _ => n - (intOf i).toNat)
  case atStart => exact ⟨0, _, by omega, rfl, by simp, by omega, ho1, hb1⟩
  case round =>
    obtain ⟨k, m, hk, rfl, hm, hmX, ho, hbw⟩ := hrel
    by_cases hk4 : k < n
    · obtain ⟨o0, rfl, hd0, f0⟩ := (t0.keep hbw.size fun hp => hbw.block _ (t0.lt hp)).at_ (by rw [E0.out]; omega)
      obtain ⟨o1, rfl, hd1, f1⟩ := (t1.keep hbw.size fun hp => hbw.block _ (t1.lt hp)).at_ (by rw [E1.out]; omega)
      obtain ⟨o2, rfl, hd2, f2⟩ := (t2.keep hbw.size fun hp => hbw.block _ (t2.lt hp)).at_ (by rw [E2.out]; omega)
      have k0 : k < a.length := by rw [E0.out]; exact hk4
      have k1 : k < b.length := by rw [E1.out]; exact hk4
      have k2 : k < c.length := by rw [E2.out]; exact hk4
      have g0 : wr.cell? ⟨d0, o0 + k, none⟩ = some (.int .u8 (a[k]).toNat) := f0 k k0
      have g1 : wr.cell? ⟨d1, o1 + k, none⟩ = some (.int .u8 (b[k]).toNat) := f1 k k1
      have g2 : wr.cell? ⟨d2, o2 + k, none⟩ = some (.int .u8 (c[k]).toNat) := f2 k k2
      obtain ⟨bb, e, hbb, hbl, hfr, hcl⟩ := ho.at_ (by omega)
      cases e
      have hkm : k < m.length := by omega
      have hc : wr.cell? ⟨w.heap.size, k, none⟩ = some (.int .u8 (m[k]).toNat) := hcl k (by omega)
      have hf := hfr k
      have hxk := HXG.out k k0 k1 k2 (by rw [HX.out]; exact k0)
      have hXk : X[k]? = some (a[k] ^^^ b[k] ^^^ c[k]) := by rw [List.getElem?_eq_getElem (by rw [HX.out]; exact k0), hxk]
      have hset := fun (u : Value) (hu : u = u8c (a[k] ^^^ b[k] ^^^ c[k])) => ho.set_ hm k (a[k] ^^^ b[k] ^^^ c[k]) u hu
      have hz : (a[k] ^^^ b[k] ^^^ c[k]).toNat = (a[k]).toNat ^^^ (b[k]).toNat ^^^ (c[k]).toNat := by simp
      have q0 := (a[k]).toNat_lt
      have q1 := (b[k]).toNat_lt
      have q2 := (c[k]).toNat_lt
      generalize a[k] ^^^ b[k] ^^^ c[k] = z at *
      generalize (a[k]).toNat = x0 at *
      generalize (b[k]).toNat = x1 at *
      generalize (c[k]).toNat = x2 at *
      generalize (m[k]).toNat = x3 at hc
      have i0 : (k : Int) < (m0 : Int) := by omega
      have i1 : (k : Int) < (m1 : Int) := by omega
      have i2 : (k : Int) < (m2 : Int) := by omega
      have i3 : (k : Int) < (n : Int) := by omega
      have hx1 : bits BinOp.xor IntKind.u8 (x0 : Int) (x1 : Int) = ((x0 ^^^ x1 : Nat) : Int) := u8_xor_nat _ _ (by omega) (by omega)
      have hx2 : bits BinOp.xor IntKind.u8 ((x0 ^^^ x1 : Nat) : Int) (x2 : Int) = ((x0 ^^^ x1 ^^^ x2 : Nat) : Int) := u8_xor_nat _ _ (Nat.xor_lt_two_pow (n := 8) (by omega) (by omega)) (by omega)
      clear hcl hfr f0 f1 f2
      have HS := Lib.hid hset
      have HZ := Lib.hid hz
      have HXK := Lib.hid hXk
      have HMX := Lib.hid hmX
      clear hset hz hxk hXk hmX k0 k1 k2 hkm
      go_wp2_with fail
      go_region
      all_goals
        go_wp2_with fail
        go_roundw
        case rel =>
          refine ⟨k + 1, m.set k z, by omega, by go_num, by simpa using hm, fun j hj => ?_, (HS.out _ (by simp [u8c, HZ.out])), below_drew1 (below_set hbw (Nat.le_refl _) _)⟩
          rw [List.getElem?_set]
          by_cases hjk : k = j
          · subst hjk
            rw [if_pos rfl, if_pos (by omega), HXK.out]
          · rw [if_neg hjk]
            exact HMX.out j (by omega)
        case measure => simp [intOf]; omega
    · obtain rfl : k = n := by omega
      have hmx : m = X := List.ext_getElem? fun j => by
        by_cases hj : j < k
        · exact hmX j hj
        · rw [List.getElem?_eq_none (by omega), List.getElem?_eq_none (by rw [HX.out, E0.out]; omega)]
      subst hmx
      have hT : Tab wr := h.below hbw h.1
      obtain ⟨g, _, hs⟩ := ho.shows
      have sX := Lib.hid (fun q => sum_any' (some ⟨w.heap.size, 0, none⟩) k k g m (wr.drewN q) hm (hT.drewN q) (hs.drewN q) (by omega))
      have s0 := Lib.hid (fun q => sum_any' A0 c0 k d0 a (wr.drewN q) E0.out (hT.drewN q) ((t0.keep hbw.size fun hp => hbw.block _ (t0.lt hp)).drewN q) (by omega))
      have s1 := Lib.hid (fun q => sum_any' A1 c1 k d1 b (wr.drewN q) E1.out (hT.drewN q) ((t1.keep hbw.size fun hp => hbw.block _ (t1.lt hp)).drewN q) (by omega))
      have s2 := Lib.hid (fun q => sum_any' A2 c2 k d2 c (wr.drewN q) E2.out (hT.drewN q) ((t2.keep hbw.size fun hp => hbw.block _ (t2.lt hp)).drewN q) (by omega))
      rw [HXS.out] at sX
      have z0 := sum_lt a
      have z1 := sum_lt b
      have z2 := sum_lt c
      generalize sum a = x0 at *
      generalize sum b = x1 at *
      generalize sum c = x2 at *
      have hx1 : bits BinOp.xor IntKind.u32 (x0 : Int) (x1 : Int) = ((x0 ^^^ x1 : Nat) : Int) := u32_xor_nat _ _ (by omega) (by omega)
      have hx2 : bits BinOp.xor IntKind.u32 ((x0 ^^^ x1 : Nat) : Int) (x2 : Int) = ((x0 ^^^ x1 ^^^ x2 : Nat) : Int) := u32_xor_nat _ _ (Nat.xor_lt_two_pow (n := 32) (by omega) (by omega)) (by omega)
      have i0 : (k : Int) ≤ (c0 : Int) := by omega
      have i1 : (k : Int) ≤ (c1 : Int) := by omega
      have i2 : (k : Int) ≤ (c2 : Int) := by omega
      clear HXS HXG hmX hm z0 z1 z2 hs
      go_wp2_with fail
      go_region_held3 (fun _ => True) (trivial)
        (first
          | (go_at_call 10
             first
               | refine (sX.out _).mono ?_
               | refine (s0.out _).mono ?_
               | refine (s1.out _).mono ?_
               | refine (s2.out _).mono ?_
             rintro e w' ⟨rfl, rfl⟩)
          | (go_at_call 14
             refine (head_any _ (hT.drewN _)).mono ?_
             rintro e w4 ⟨rfl, hb4⟩))
      all_goals
        have hb' : Below wr.heap.size wr w4 := (blw_drewN (Below.refl _ _) 1).trans hb4
        go_wp2_with fail
        go_ret
        exact ⟨rfl, hbw.trans (hb'.mono hbw.size)⟩

set_option maxRecDepth 100000 in
theorem three_lifted (os : Os) (started : os.Started) (H : Type) (enc : TypeId × Value → H) :
    ReturnsInHanded {} Tryd.checked os 9 .any (fun w args => (Rows.crcThreeSpec.pre enc Tryd.prog Tryd.f9 [] false w args ∧ laidMetH Tryd.prog laid1 w) ∧ sizedMet enc Tryd.prog Tryd.f9 (OpenSpec.ofChange Rows.crcThreeSpec) false w args)
      (Rows.crcThreeSpec.post enc Tryd.prog Tryd.f9 false true false false) := by
  refine returnsInHanded_of_change_and (C := Tryd.checked) (X := fun w _ => laidMetH Tryd.prog laid1 w) (fun _ _ _ hh h => h.of_heap hh) own started (by kernel_rfl) Tryd.func9
    (ChangeSpec.witness_shaped (enc := enc) (C := Tryd.checked) (os := os) (X := fun w _ => laidMetH Tryd.prog laid1 w) false (World.doorLaid Tryd.prog 14 os) #[.slice none 0 0, .slice none 0 0, .slice none 0 0] 8 rfl (World.shaped_of_RefB (by kernel_rfl) (by kernel_rfl)) (by kernel_rfl) (by kernel_rfl) (by kernel_rfl) (door_met os _)) ?_
  intro W base args ds gs before hval0 hW _ hsz0 hL _
  have hval : ∀ (j : Nat) t v, Tryd.f9.params[j]? = some t → args[j]? = some v → Value.okWide Tryd.prog W .any base t v := hval0
  have hsz : (DataW.weightsEach Tryd.prog (Tryd.f9.params.toList ++ Rows.crcThreeSpec.plain.varTypes Tryd.prog) (ds ++ gs)).all (· ≤ reachBytes) = true := hsz0
  have hW' := hW
  obtain ⟨p, q, hA0, hV, rfl, hfz, hnd⟩ := hW
  have hA : DataW.TrodAll enc Tryd.prog W 0 (fun _ => true) true Tryd.f9.params.toList args.toList ds p := hA0
  rw [Tryd.params9] at hA hval hsz
  obtain ⟨v0, vs0, d0, ds0, p0, q0, hargs, rfl, rfl, h0, r0⟩ := trodAll_cons hA
  obtain ⟨v1, vs1, d1, ds1, p1, q1, rfl, rfl, rfl, h1, r1⟩ := trodAll_cons r0
  obtain ⟨v2, vs2, d2, ds2, p2, q2, rfl, rfl, rfl, h2, r2⟩ := trodAll_cons r1
  obtain ⟨rfl, rfl, rfl⟩ := trodAll_nil r2
  obtain rfl : args = #[v0, v1, v2] := by cases args; simp_all
  obtain ⟨rfl, rfl⟩ := trodVars_none hV
  have k0 := h0
  have lt0 : ∀ x ∈ p0, x.block < W.heap.size := by obtain ⟨m, hm⟩ := k0; exact DataW.trod_lt m _ _ _ hm
  have k1 := h1
  have lt1 : ∀ x ∈ p1, x.block < W.heap.size := by obtain ⟨m, hm⟩ := k1; exact DataW.trod_lt m _ _ _ hm
  have k2 := h2
  have lt2 : ∀ x ∈ p2, x.block < W.heap.size := by obtain ⟨m, hm⟩ := k2; exact DataW.trod_lt m _ _ _ hm
  obtain ⟨A0, c0, b0, L0, rfl, sh0, l0⟩ := open_bytes Tryd.underlying23 Tryd.underlying5 (by kernel_rfl) bytes5 (hval 0 23 v0 rfl rfl) h0 hsz 0 rfl rfl
  obtain ⟨A1, c1, b1, L1, rfl, sh1, l1⟩ := open_bytes Tryd.underlying23 Tryd.underlying5 (by kernel_rfl) bytes5 (hval 1 23 v1 rfl rfl) h1 hsz 1 rfl rfl
  obtain ⟨A2, c2, b2, L2, rfl, sh2, l2⟩ := open_bytes Tryd.underlying23 Tryd.underlying5 (by kernel_rfl) bytes5 (hval 2 23 v2 rfl rfl) h2 hsz 2 rfl rfl
  clear hA0 hval0
  refine (three_walk A0 A1 A2 c0 c1 c2 b0 b1 b2 L0 L1 L2 W (tab_of_laid hL) sh0 sh1 sh2 (by omega)).mono fun e W' ⟨he, bel⟩ => ?_
  subst he
  exact ⟨_, rfl, _, _, _, [], _, [], hW', trodAll_mk1 (shut_bool Tryd.underlying4 _), (trodAll_cons_mk (Below.trod laidOut (by kernel_rfl) (of_decide_eq_true (by kernel_rfl)) k0 bel lt0) (trodAll_cons_mk (Below.trod laidOut (by kernel_rfl) (of_decide_eq_true (by kernel_rfl)) k1 bel lt1) (trodAll_cons_mk (Below.trod laidOut (by kernel_rfl) (of_decide_eq_true (by kernel_rfl)) k2 bel lt2) trodAll_mk0))), rfl, bel.frame _, fun h => by cases h⟩

theorem three_over : Rows.CrcThreeSaid :=
  OpenClaim.holds_of_wide 9 Tryd.f9 rfl rfl rfl rfl rfl rfl rfl ⟨rfl, rfl, rfl, rfl, rfl⟩ rfl rfl rfl rfl rfl (by kernel_rfl) Tryd.func9 (by kernel_rfl)
    (of_decide_eq_true (by kernel_rfl)) (by unfold Func.isWrapper; first | (rw [if_pos (by decide +kernel)]; kernel_rfl) | (rw [if_neg (by decide +kernel)]; exact ⟨rfl, rfl⟩))
    (fun os started H enc _ => three_lifted os started H enc)

theorem crcThree_holds : Rows.CrcThreeCardSaid :=
  Claim7.holds_tied_plain_at .later [] [.data] true (true, "0f65ae8225e0c38ae43da0f6f4820c298e4b4f6c39bdfae3028bd6766e63b85b") false
    three_over (fun _ h => by cases h) (by kernel_rfl) (fun _ h => by cases h) crcThree_row_tie rfl ⟨rfl, rfl⟩ (by kernel_rfl) rfl
    (fun f fn hf hfn => by
      obtain rfl : f = 9 := Option.some.inj ((show Tryd.prog.funcNamed "posthouse/posthouselaw02.CrcThree" = some 9 by kernel_rfl).symm.trans hf) |>.symm
      obtain rfl : fn = Tryd.f9 := (Option.some.inj (Tryd.func9.symm.trans hfn)).symm
      exact ⟨by kernel_rfl, fun j t ht => by
        rw [Tryd.params9] at ht
        have hm : t ∈ [23, 23, 23] := by simpa using Array.mem_of_getElem? ht
        have hall : ([23, 23, 23].all fun u => !Tryd.prog.wantsStandIn u) = true := by kernel_rfl
        exact (show Tryd.prog.wantsStandIn t = false by simpa using List.all_eq_true.1 hall t hm)⟩)
    (by kernel_rfl)
#print axioms crcThree_holds
end Go.Proofs.YtelmbboapbmggaaDoor
