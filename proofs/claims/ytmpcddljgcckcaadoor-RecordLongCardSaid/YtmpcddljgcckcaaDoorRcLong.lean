/-
  RecordLong: for every difference and byte the law returns true, and its arguments read as before; the table is tied to the program's text.
  Conditions: the package-level table reads as the program's own text lays it (the card ties it).
-/
import Derived.Test.YtmpcddljgcckcaaDoorRcR
import Derived.Test.YtmpcddljgcckcaaDoorCards
import Derived.Test.YtmpcddljgcckcaaDoorTie
import Derived.StillTailTactics
import Derived.Deep.RegionHeld3
namespace Go.Proofs.YtmpcddljgcckcaaDoor
open Go.ChangeShapes Go.WideShapes Go.ChangeAt Go.RowKit
open Go.ChangeMaps (open_string shut_string)
open Crc (sealD okSeal sealD_length sealD_ok okSeal_iff openD Tab tab)
set_option linter.unusedVariables false
set_option linter.unusedSimpArgs false

/-- The row while it is filled. -/
def fillR (n k : Nat) (y : UInt8) : List UInt8 := List.replicate k y ++ List.replicate (n - k) 0
theorem fillR_length (n k : Nat) (y : UInt8) (h : k ≤ n) : (fillR n k y).length = n := by simp [fillR]; omega
theorem fillR_set (n k : Nat) (y : UInt8) (h : k < n) : (fillR n k y).set k y = fillR n (k + 1) y := by
  unfold fillR
  rw [List.set_append_right _ _ (by simp), List.length_replicate, Nat.sub_self, show n - k = (n - (k + 1)) + 1 by omega, List.replicate_succ, List.set_cons_zero, List.replicate_succ', List.append_assoc]
  rfl

/-- What the last statement reads, in each world that it comes through. -/
structure LongH (w wj : World) (b4 k : Nat) (p : ByteArray) (W : World) : Prop where
  tab : Tab W
  bel : Below w.heap.size w W
  x1 : W.cell? ⟨b4, 1, none⟩ = some (.string p)
  cv : (convert 31 9 (.slice (some ⟨w.heap.size, 0, none⟩) k k)).run Tryd.prog W = .ok (.string p) W
  lt : b4 < W.heap.size
  old : Below wj.heap.size wj W
theorem LongH.cells {w wj W : World} {b4 k : Nat} {p : ByteArray} (h : LongH w wj b4 k p W) : W.cell? ⟨b4, 1, none⟩ = some (.string p) ∧ (convert 31 9 (.slice (some ⟨w.heap.size, 0, none⟩) k k)).run Tryd.prog W = .ok (.string p) W := ⟨h.x1, h.cv⟩
theorem LongH.step {w wj W W' : World} {b4 k : Nat} {p : ByteArray} (h : LongH w wj b4 k p W) (hb : Below W.heap.size W W')
    (hcv : ∀ W, Below wj.heap.size wj W → (convert 31 9 (.slice (some ⟨w.heap.size, 0, none⟩) k k)).run Tryd.prog W = .ok (.string p) W) : LongH w wj b4 k p W' := by
  have ho := h.old.trans (hb.mono h.old.size)
  exact ⟨h.tab.below hb h.tab.1, h.bel.trans (hb.mono h.bel.size), by rw [World.cell?_of_block (w := W) (hb.block b4 h.lt)]; exact h.x1, hcv _ ho, Nat.lt_of_lt_of_le h.lt hb.size, ho⟩

theorem w13 (k : Nat) (h : k < 65664) : wrap64 ((k : Int) + 13) = (k : Int) + 13 ∧ IntKind.i64.wrap ((k : Int) + 13) = (k : Int) + 13 := ⟨w64_id _ (by omega) (by omega), i64_id _ (by omega) (by omega)⟩

set_option maxRecDepth 100000 in
set_option maxHeartbeats 4000000 in
theorem long_walk (mo : Int) (C : Nat) (w : World) (hT : Tab w) (h1 : -128 ≤ mo) (h2 : mo < 128) (hC : C < 256) :
    Calls Tryd.prog 4 #[.int .i8 mo, .int .u8 C] w fun e w' => e = .returned (.bool true) ∧ Below w.heap.size w w' := by
  have HT := Lib.hid (fun w' (hb : Below w.heap.size w w') => hT.below hb hT.1)
  obtain ⟨n, hn⟩ : ∃ n : Nat, 65536 + mo = (n : Int) := ⟨(65536 + mo).toNat, by omega⟩
  have hnl : n < 65664 := by omega
  obtain ⟨y, hy⟩ : ∃ y : UInt8, y.toNat = C := ⟨UInt8.ofNat C, by simp; omega⟩
  have HY := Lib.hid hy
  have HN := Lib.hid hn
  clear hT hy
  go_enter Tryd.func4, Tryd.ntmps4
  go_wp2_with (at_make; refine wpList_make8 _ rfl (.tmp 16) (.tmp 16) 31 5 rfl Tryd.underlying31 info5 (n : Int) n rfl rfl rfl (by omega) ?_; intro w1 ho1 hg1)
  have hB1 : Below w.heap.size w w1 := (Below.refl _ _).grown hg1 (Nat.le_refl _) (by simp)
  have HS0 := Lib.hid (fun w' (h : Own 5 w' w.heap.size (.slice (some ⟨w.heap.size, 0, none⟩) n n) (fillR n n y)) => h.shows)
  go_loopw [7] (fun i wr => ∃ k : Nat, k ≤ n ∧ i = .int .i64 k ∧ Own 5 wr w.heap.size (.slice (some ⟨w.heap.size, 0, none⟩) n n) (fillR n k y) ∧ Below w.heap.size w wr) (fun i _ => n - (intOf i).toNat)
  case atStart => exact ⟨0, Nat.zero_le _, rfl, by simpa [fillR] using ho1, hB1⟩
  case round =>
    obtain ⟨k, hk, rfl, ho, hbw⟩ := hrel
    rename World => wj
    by_cases hlt : k < n
    · have hki : (k : Int) < (n : Int) := by omega
      obtain ⟨b, e, _, hbl, hfr, hcl⟩ := ho.at_ (by omega)
      cases e
      have hlen := fillR_length n k y hk
      have hc := hcl k (by rw [hlen]; exact hlt)
      have hf := hfr k
      have hset := fun u hu => ho.set_ hlen k y u hu
      rw [fillR_set n k y hlt] at hset
      generalize (fillR n k y)[k]'_ = z at hc
      have HSET := Lib.hid hset
      clear hset hcl hfr hlen ho
      go_wp2_with fail
      go_roundw
      case rel => exact ⟨k + 1, by omega, by go_num, HSET.out _ (by unfold u8c; rw [HY.out]), below_set hbw (Nat.le_refl _) _⟩
      case measure => simp [intOf]; omega
    · obtain rfl : k = n := by omega
      have hki : ¬ (k : Int) < (k : Int) := by omega
      obtain ⟨gg, _, hsh⟩ := HS0.out wj ho
      have hcv := conv_at hsh
      obtain ⟨p, hp⟩ : ∃ p, p = str8 (fillR k k y) := ⟨_, rfl⟩
      have hps : p.size = k := by rw [hp, str8_size, fillR_length k k y (Nat.le_refl _)]
      rw [← hp] at hcv
      have hbA : Below w.heap.size w (wj.alloc (.cells #[.int .u8 C, .string p] 33)) := hbw.alloc hbw.size _
      have hshA : ShowsG rcC (wj.alloc (.cells #[.int .u8 C, .string p] 33)) wj.heap.size (.slice (some ⟨wj.heap.size, 0, none⟩) 1 1) [⟨y, p⟩] := ShowsG.lit (C := rcC) [⟨y, p⟩] (by simp [Code.all, rcC, u8c, HY.out]) (by simp [maxLen])
      have HCV := Lib.hid (fun W (hb : Below wj.heap.size wj W) => show (convert 31 9 (.slice (some ⟨w.heap.size, 0, none⟩) k k)).run Tryd.prog W = .ok (.string p) W from by
        rw [hp]
        exact conv_at (hsh.keep hb.size fun hp => hb.block _ (hsh.lt hp)))
      have HP := Lib.hid hps
      by_cases hpos : 0 < mo
      · have hbig : 65536 < k := by have := HN.out; omega
        have hput := rput_any (some ⟨wj.heap.size, 0, none⟩) 1 wj.heap.size [⟨y, p⟩] _ (HT.out _ hbA) hshA (by simp) (by intro r hr; simp at hr; subst hr; show p.size ≤ 70000; omega)
        have hpr : putR [⟨y, p⟩] = (⟨#[]⟩, 3) := putR_no (k := 0) (by simp) (by show 65536 < p.size; omega)
        have HPUT := Lib.hid (show Calls Tryd.prog 11 #[.slice (some ⟨wj.heap.size, 0, none⟩) 1 1] (wj.alloc (.cells #[.int .u8 C, .string p] 33)) fun e w' => e = .returned (.tuple #[.string ⟨#[]⟩, .int .i64 3]) ∧ Below (wj.alloc (.cells #[.int .u8 C, .string p] 33)).heap.size (wj.alloc (.cells #[.int .u8 C, .string p] 33)) w' from by
          refine hput.mono ?_
          rintro e w' ⟨rfl, hb⟩
          rw [hpr]
          exact ⟨rfl, hb⟩)
        have HBA := Lib.hid hbA
        clear hput hpr hsh hshA hp hps hbA ho hg1 ho1 hB1 hbig hn
        go_wp2_with fail
        with_reducible refine HPUT.out.mono ?_
        rintro e w3 ⟨rfl, hb3⟩
        have hw3 : Below w.heap.size w w3 := HBA.out.trans (hb3.mono HBA.out.size)
        have HH := Lib.hid (rhead_any w3 (HT.out _ hw3))
        go_wp2_with (with_reducible refine HH.out.mono ?_; rintro e w4 ⟨rfl, hb4⟩)
        go_ret
        exact ⟨rfl, hw3.trans (hb4.mono hw3.size)⟩
      · have hbig : k ≤ 65536 := by have := HN.out; omega
        have h65 : ∀ r ∈ [(⟨y, p⟩ : Rc)], r.p.size ≤ 65536 := by intro r hr; simp at hr; subst hr; show p.size ≤ 65536; omega
        have hput := rput_ok (some ⟨wj.heap.size, 0, none⟩) 1 wj.heap.size [⟨y, p⟩] _ (HT.out _ hbA) hshA (by simp) h65
        have hsc := scan_put [⟨y, p⟩] [] h65
        have hlenR : (recsB [(⟨y, p⟩ : Rc)]).length = k + 13 := by rw [recsB_cons, recsB_nil, List.append_nil, recB_length, hps]
        rw [List.append_nil, scanR_nil, hlenR] at hsc
        simp only [Nat.add_zero, List.append_nil] at hsc
        obtain ⟨S, hS⟩ : ∃ S, S = str8 (recsB [(⟨y, p⟩ : Rc)]) := ⟨_, rfl⟩
        have hSz : S.size = k + 13 := by rw [hS, str8_size, hlenR]
        have hscS : scanR (sb S) = ([⟨y, p⟩], k + 13, 0) := by rw [hS, sb_str8, hsc]
        have HSC := Lib.hid (fun W (hT : Tab W) => rscan_len S [⟨y, p⟩] 1 (k + 13) 0 rfl W hT (by omega) hscS)
        have HPUT := Lib.hid (show Calls Tryd.prog 11 #[.slice (some ⟨wj.heap.size, 0, none⟩) 1 1] (wj.alloc (.cells #[.int .u8 C, .string p] 33)) fun e w' => e = .returned (.tuple #[.string S, .int .i64 0]) ∧ Below (wj.alloc (.cells #[.int .u8 C, .string p] 33)).heap.size (wj.alloc (.cells #[.int .u8 C, .string p] 33)) w' from by
          rw [hS]
          exact hput)
        have HBA := Lib.hid hbA
        have HWA := Lib.hid (show Below wj.heap.size wj (wj.alloc (.cells #[.int .u8 C, .string p] 33)) from (Below.refl _ _).alloc (Nat.le_refl _) _)
        have hzA : wj.heap.size ≤ (wj.alloc (.cells #[.int .u8 C, .string p] 33)).heap.size := by simp
        clear hput hsc hlenR hS hscS h65 hsh hshA hp hps hbA ho hg1 ho1 hB1 hn
        go_wp2_with fail
        with_reducible refine HPUT.out.mono ?_
        rintro e w3 ⟨rfl, hb3⟩
        have hw3 : Below w.heap.size w w3 := HBA.out.trans (hb3.mono HBA.out.size)
        have hv3 : Below wj.heap.size wj w3 := HWA.out.trans (hb3.mono hzA)
        go_wp2_with fail
        with_reducible refine (HSC.out w3 (HT.out _ hw3)).mono ?_
        rintro e w4 ⟨A4, c4, rfl, ho4, hb4⟩
        have hw4 : Below w.heap.size w w4 := hw3.trans (hb4.mono hw3.size)
        have hv4 : Below wj.heap.size wj w4 := hv3.trans (hb4.mono hv3.size)
        obtain ⟨b4, rfl, _, hb4l, _, hcl4⟩ := ho4.at_ (by simp)
        have x1 : w4.cell? ⟨b4, 1, none⟩ = some (.string p) := hcl4 0 (by simp) 1 (by decide)
        have hH : LongH w wj b4 k p w4 := ⟨HT.out _ hw4, hw4, x1, HCV.out _ hv4, hb4l, hv4⟩
        have HHD := Lib.hid (fun W (h : LongH w wj b4 k p W) => show Calls Tryd.prog 10 #[] W fun e w' => e = .returned (.bool true) ∧ LongH w wj b4 k p w' from
          (rhead_any W h.tab).mono fun _ _ ⟨he, hb⟩ => ⟨he, h.step hb HCV.out⟩)
        have hHd := hH.step (below_drew1 (Below.refl _ _)) HCV.out
        have hSzi : (S.size : Int) = (k : Int) + 13 := by rw [hSz]; simp
        obtain ⟨hw64, hwi⟩ := w13 k hnl
        clear hcl4 ho4 x1
        go_upto_region 11 with fail
        obtain ⟨y1, y2⟩ := hHd.cells
        obtain ⟨z1, z2⟩ := hH.cells
        go_region_held3 (fun w' => w'.cell? ⟨b4, 1, none⟩ = some (.string p) ∧ (convert 31 9 (.slice (some ⟨w.heap.size, 0, none⟩) k k)).run Tryd.prog w' = .ok (.string p) w') (exact LongH.cells (by assumption))
          (first
            | (go_at_call 10; refine (HHD.out _ (by assumption)).mono ?_; rintro e wx ⟨rfl, hx⟩))
        all_goals
          go_wp2_with fail
          go_ret
          exact ⟨rfl, hx.bel⟩

set_option maxRecDepth 100000 in
theorem long_walk_lifted (os : Os) (started : os.Started) (H : Type) (enc : TypeId × Value → H) :
    ReturnsInHanded {} Tryd.checked os 4 .any (fun w args => (Rows.recordLongSpec.pre enc Tryd.prog Tryd.f4 [] false w args ∧ laidMetH Tryd.prog laid1 w) ∧ sizedMet enc Tryd.prog Tryd.f4 (OpenSpec.ofChange Rows.recordLongSpec) false w args)
      (Rows.recordLongSpec.post enc Tryd.prog Tryd.f4 false true false false) := by
  refine returnsInHanded_of_change_and (C := Tryd.checked) (X := fun w _ => laidMetH Tryd.prog laid1 w) (fun _ _ _ hh h => h.of_heap hh) own started (by kernel_rfl) Tryd.func4
    (ChangeSpec.witness_shaped (enc := enc) (C := Tryd.checked) (os := os) (X := fun w _ => laidMetH Tryd.prog laid1 w) false (World.doorLaid Tryd.prog 14 os) #[.int .i8 0, .int .u8 0] 8 rfl (World.shaped_of_RefB (by kernel_rfl) (by kernel_rfl)) (by kernel_rfl) (by kernel_rfl) (by kernel_rfl) (door_met os _)) ?_
  intro W base args ds gs before hval0 hW _ hsz0 hL _
  have hval : ∀ (j : Nat) t v, Tryd.f4.params[j]? = some t → args[j]? = some v → Value.okWide Tryd.prog W .any base t v := hval0
  have hsz : (DataW.weightsEach Tryd.prog (Tryd.f4.params.toList ++ Rows.recordLongSpec.plain.varTypes Tryd.prog) (ds ++ gs)).all (· ≤ reachBytes) = true := hsz0
  have hW' := hW
  obtain ⟨p, q, hA0, hV, rfl, hfz, hnd⟩ := hW
  have hA : DataW.TrodAll enc Tryd.prog W 0 (fun _ => true) true Tryd.f4.params.toList args.toList ds p := hA0
  rw [Tryd.params4] at hA hval hsz
  obtain ⟨v0, vs0, d0, ds0, p0, q0, hargs, rfl, rfl, h0, r0⟩ := trodAll_cons hA
  obtain ⟨v1, vs1, d1, ds1, p1, q1, rfl, rfl, rfl, h1, r1⟩ := trodAll_cons r0
  obtain ⟨rfl, rfl, rfl⟩ := trodAll_nil r1
  obtain rfl : args = #[v0, v1] := by cases args; simp_all
  obtain ⟨rfl, rfl⟩ := trodVars_none hV
  have k0 := h0
  have lt0 : ∀ x ∈ p0, x.block < W.heap.size := by obtain ⟨m, hm⟩ := k0; exact DataW.trod_lt m _ _ _ hm
  have k1 := h1
  have lt1 : ∀ x ∈ p1, x.block < W.heap.size := by obtain ⟨m, hm⟩ := k1; exact DataW.trod_lt m _ _ _ hm
  obtain ⟨s0, rfl, rfl, rfl, ws0⟩ := open_int Tryd.underlying30 (hval 0 30 v0 rfl rfl) h0
  obtain ⟨s00, s01⟩ := rc_i8_range ws0
  obtain ⟨s1, rfl, rfl, rfl, ws1⟩ := open_int Tryd.underlying5 (hval 1 5 v1 rfl rfl) h1
  obtain ⟨s10, s11⟩ := u8_range ws1
  obtain ⟨S1, rfl⟩ := Int.eq_ofNat_of_zero_le s10
  clear hA0 hval0
  refine (long_walk s0 S1 W (tab_of_laid hL) s00 s01 (by omega)).mono fun e W' ⟨he, bel⟩ => ?_
  subst he
  exact ⟨_, rfl, _, _, _, [], _, [], hW', trodAll_mk1 (shut_bool Tryd.underlying4 _), (trodAll_cons_mk (Below.trod laidOut (by kernel_rfl) (of_decide_eq_true (by kernel_rfl)) k0 bel lt0) (trodAll_cons_mk (Below.trod laidOut (by kernel_rfl) (of_decide_eq_true (by kernel_rfl)) k1 bel lt1) trodAll_mk0)), rfl, bel.frame _, fun h => by cases h⟩

theorem long_walk_over : Rows.RecordLongSaid :=
  OpenClaim.holds_of_wide 4 Tryd.f4 rfl rfl rfl rfl rfl rfl rfl ⟨rfl, rfl, rfl, rfl, rfl⟩ rfl rfl rfl rfl rfl (by kernel_rfl) Tryd.func4 (by kernel_rfl)
    (of_decide_eq_true (by kernel_rfl)) (by unfold Func.isWrapper; first | (rw [if_pos (by decide +kernel)]; kernel_rfl) | (rw [if_neg (by decide +kernel)]; exact ⟨rfl, rfl⟩))
    (fun os started H enc _ => long_walk_lifted os started H enc)

theorem recordLong_holds : Rows.RecordLongCardSaid :=
  Claim7.holds_tied_plain_at .later [] [.data] true (true, "a9d5fd1340711233ce61910b50a92aefee660ba42ae3caf9da3306c67fcf17ac") false
    long_walk_over (fun _ h => by cases h) (by kernel_rfl) (fun _ h => by cases h) recordLong_row_tie rfl ⟨rfl, rfl⟩ (by kernel_rfl) rfl
    (fun f fn hf hfn => by
      obtain rfl : f = 4 := Option.some.inj ((show Tryd.prog.funcNamed "posthouse/posthouselaw11.RecordLong" = some 4 by kernel_rfl).symm.trans hf) |>.symm
      obtain rfl : fn = Tryd.f4 := (Option.some.inj (Tryd.func4.symm.trans hfn)).symm
      exact ⟨by kernel_rfl, fun j t ht => by
        rw [Tryd.params4] at ht
        have hm : t ∈ [30, 5] := by simpa using Array.mem_of_getElem? ht
        have hall : ([30, 5].all fun u => !Tryd.prog.wantsStandIn u) = true := by kernel_rfl
        exact (show Tryd.prog.wantsStandIn t = false by simpa using List.all_eq_true.1 hall t hm)⟩)
    (by kernel_rfl)
#print axioms recordLong_holds
end Go.Proofs.YtmpcddljgcckcaaDoor
