/-
  Of subscriptions that may always be served, each with endless credit, none is served again ahead of all others.
  Conditions: none.
-/
import Derived.Test.YtknfiiacalfelaaClP
import Derived.Test.YtknfiiacalfelaaCrX
import Derived.Test.YtknfiiacalfelaaRowkit
import Derived.Test.YtknfiiacalfelaaRows
namespace Go.Proofs.Ytknfiiacalfelaa
open Go.ChangeShapes Go.WideShapes Go.ChangeAt Go.RowKit Go.Shelf
set_option linter.unusedVariables false
set_option linter.unusedSimpArgs false
set_option maxRecDepth 100000

theorem names_slice (i : Nat) (hi : i < 10) : ByteArray.extract ⟨#[97, 98, 99, 100, 101, 102, 103, 104, 105, 106]⟩ i (i + 1) = str8 (chT i) := by
  have h : ∀ i, i < 10 → ByteArray.extract ⟨#[97, 98, 99, 100, 101, 102, 103, 104, 105, 106]⟩ i (i + 1) = str8 (chT i) := by decide +kernel
  exact h i hi
theorem UnoC.grown {α : Type} {C : Code α} {w0 w w' : World} {pb : Nat} {s : CP} {e : TypeId} {v : Value} {l : List α} (h : UnoC w0 pb s w) (ho : OwnG C e w w0.heap.size v l) (hm : ∀ c, ¬ mineP (.cells c e (0, 0))) (hg : w.grownBy w' v.ownBlock) : UnoC w0 pb s w' := by
  obtain ⟨F, h1⟩ := h.one
  refine ⟨h.bel.grown hg h.bel.size (fun k e => (ho.block k e).1), F, h1.keep fun k hk => hg.block k (h1.foot k hk).2 fun e2 => ?_⟩
  obtain ⟨o, h2, h3⟩ := h1.mine hk
  rcases ho.2 with ⟨rfl, _⟩ | ⟨g, cap, cur, rfl, _, hb, _⟩
  · cases e2
  · cases e2
    rw [hb] at h2
    cases h2
    exact hm _ h3
theorem fairC_len (n : Nat) : (fairC n).length = n := by simp [fairC]
theorem fair_add {j : Nat} (hj : j < 10) (la : Tg) : (⟨spL (fairC j), la⟩ : CP).add (chT j) = (0, ⟨spL (fairC j ++ [0]), la⟩) := by
  have := sp_add (cs := fairC j) (by rw [fairC_len]; omega) la
  rw [fairC_len] at this
  exact this
theorem fair_give {j : Nat} (hj : j < 10) (la : Tg) : (⟨spL (fairC j ++ [0]), la⟩ : CP).give (chT j) 4294967295 = (0, ⟨spL (fairC (j + 1)), la⟩) := by
  have := sp_give (cs := fairC j) (by rw [fairC_len]; omega) la 4294967295 (by omega)
  rw [fairC_len, fairC_snoc] at this
  exact this
def toldL (n k : Nat) : List Tg := (List.range k).map fun q => chT (q % n)
theorem toldL_snoc (n k : Nat) : toldL n k ++ [chT (k % n)] = toldL n (k + 1) := by unfold toldL; rw [List.range_succ, List.map_append]; rfl
theorem toldL_len (n k : Nat) : (toldL n k).length = k := by simp [toldL]
theorem str8_ne {a b : List UInt8} (h : a ≠ b) : ((str8 a).toList == (str8 b).toList) = false := by rw [str8_toList, str8_toList]; simpa using h
theorem OwnG.cellS {w : World} {base q c : Nat} {A : Option Addr} {l : List Tg} (h : OwnG strC 9 w base (.slice A q c) l) (hp : 0 < l.length) : ∃ g, A = some ⟨g, 0, none⟩ ∧ ∀ j (hj : j < l.length), w.cell? ⟨g, j, none⟩ = some (.string (str8 l[j])) := by
  obtain ⟨hq, _⟩ := h.len_
  obtain ⟨g, rfl, _, _, _, hc⟩ := h.at_ (by omega)
  exact ⟨g, rfl, fun j hj => by simpa [strC] using hc j hj 0 (by decide)⟩
set_option maxHeartbeats 8000000 in
theorem cfair_walk (a b : Nat) (w : World) (ha : a < 256) (hb : b < 256) : Calls Try.prog 5 #[.int .u8 a, .int .u8 b] w fun e w' => e = .returned (.bool true) ∧ Below w.heap.size w w' := by
  obtain ⟨n, hn⟩ : ∃ n, n = a % 10 + 1 := ⟨_, rfl⟩
  obtain ⟨tu, htu⟩ : ∃ tu, tu = b % 101 := ⟨_, rfl⟩
  have hn11 : n < 11 := by omega
  have hn0 : 0 < n := by omega
  have htl : tu ≤ 100 := by omega
  have H0 := Lib.hid (fun w' => UnoC.new w')
  have HH := Lib.hid (fun w' => chead_any w')
  have eN : (1 + (a : Int) % 10) = (n : Int) := by omega
  have eT : (b : Int) % 101 = (tu : Int) := by omega
  have HET := Lib.hid eT
  have hms : ∀ c, ¬ mineP (.cells c 9 (0, 0)) := fun c => not_mineP (by decide) (by decide) (by decide)
  have HN := Lib.hid hn11
  clear eT hn htu
  go_enter Try.func5, Try.ntmps5
  go_upto_region 4 with (go_at_call 7; refine (H0.out _).mono ?_; rintro e w1 ⟨pb, rfl, h1, hb1⟩)
  clear eN hb1
  have HU1 := Lib.hid h1
  clear h1
  go_wp2_with fail
  go_loopw [8, 9] (fun v i wr => ∃ j : Nat, j ≤ n ∧ i = .int .i64 j ∧ Hid (OwnG strC 9 wr w.heap.size v (mayL j)) ∧ Hid (UnoC w pb ⟨spL (fairC j), []⟩ wr)) (fun _ i _ => n - (intOf i).toNat)
  case atStart => exact ⟨0, by omega, rfl, Lib.hid (OwnG.nil_ _ _ _ _), HU1⟩
  case round =>
    rename World => wr
    obtain ⟨j, hj, rfl, hrow, hu⟩ := hrel
    by_cases hlt : j < n
    · have hj10 : j < 10 := by omega
      have b1 : (j : Int) < (n : Int) := by omega
      have b3 : IntKind.i64.wrap ((j : Int) + 1) = (j : Int) + 1 := i64_id _ (by omega) (by omega)
      have b4 : wrap64 ((j : Int) + 1) = (j : Int) + 1 := w64_id _ (by omega) (by omega)
      have b5 : (j : Int) + 1 ≤ 10 := by omega
      go_upto_region 9 with fail
      rw [names_slice j hj10]
      have HA := Lib.hid (hu.out.add (chT j) (by simp [chT]))
      rw [fair_add hj10] at HA
      have HG : Hid (∀ w', UnoC w pb ⟨spL (fairC j ++ [0]), []⟩ w' → Calls Try.prog 17 #[.pointer (some ⟨pb, 0, none⟩), .string (str8 (chT j)), .int .u32 4294967295] w' fun e w'' => e = .returned (.int .i64 0) ∧ UnoC w pb ⟨spL (fairC (j + 1)), []⟩ w'' ∧ KeptBy mineP w' w'') := Lib.hid fun w' h => by
        have := h.give (chT j) (by simp [chT]) 4294967295 (by omega)
        rw [fair_give hj10] at this
        exact this
      have HML := Lib.hid (mayL_snoc j)
      have HL : Hid ((mayL j).length ≤ 10) := Lib.hid (by unfold mayL; simp; omega)
      generalize chT j = T at *
      generalize mayL j = M at *
      go_wp2_with (first
        | (go_at_call 9; refine HA.out.mono ?_; rintro e w3 ⟨rfl, hu3, hk3⟩)
        | (go_at_call 17; refine (HG.out _ hu3).mono ?_; rintro e w4 ⟨rfl, hu4, hk4⟩; have hr4 := OwnG.kb hrow.out (hk3.trans hk4) hms; have hr5 := hr4.alloc_ (.cells #[.string (str8 T)] 9); have hu5 := hu4.step ((Below.refl w4.heap.size w4).alloc (Nat.le_refl _) (.cells #[.string (str8 T)] 9)); have hm5 : ShowsG strC (w4.alloc (.cells #[.string (str8 T)] 9)) w4.heap.size (.slice (some ⟨w4.heap.size, 0, none⟩) 1 1) [T] := ShowsG.lit (C := strC) [T] (by simp [Code.all, strC]) (by simp [maxLen]); have hz5 := hu5.bel.size)
        | (at_builtin; refine wpList_appendG strC _ rfl (.tmp 41) (.tmp 43) 30 rfl w.heap.size 9 _ 16 Try.underlying30 infoStr rfl _ M rfl hr5 w4.heap.size _ [T] rfl hm5 (by have := HL.out; simp; omega) (by have := HL.out; simp; omega) (by omega) ?_; intro v6 w6 ho6 hg6; have hu6 := hu5.grown hr5 hms hg6))
      go_roundw
      case rel => exact ⟨j + 1, by omega, by go_num, Lib.hid (HML.out ▸ ho6), Lib.hid hu6⟩
      case measure => simp [intOf]; omega
    · obtain rfl : j = n := by omega
      obtain ⟨Am, cm, rfl, _, _⟩ := hrow.out.form
      have hml : (mayL j).length = j := by simp [mayL]
      rw [hml] at hrow ⊢
      have HMB : Hid (∀ g, (Value.slice Am j cm).ownBlock = some g → g < wr.heap.size) := Lib.hid fun g hg => (hrow.out.block g hg).2
      have HTL : Hid (∀ t ∈ mayL j, t.length ≤ 140737488355328) := Lib.hid fun t ht => by
        obtain ⟨i, _, rfl⟩ := List.mem_map.1 ht
        simp [chT]
      obtain ⟨B2, hB2⟩ : ∃ B2, B2 = wr.heap.size := ⟨_, rfl⟩
      have HB2 : Hid (w.heap.size ≤ B2) := Lib.hid (by rw [hB2]; exact hu.out.bel.size)
      have HB3 := Lib.hid hB2
      rw [← hB2] at HMB
      have eT := HET.out
      have HU0 : Hid (UnoC w pb ⟨spL (fairC j), fairLast j 0⟩ wr) := hu
      clear hB2 hlt hj HU1 hu
      go_wp2_with fail
      go_loopw [11, 12] (fun v i wq => ∃ k : Nat, k ≤ tu ∧ i = .int .i64 k ∧ Hid (OwnG strC 9 wq B2 v (toldL j k)) ∧ Hid (OwnG strC 9 wq w.heap.size (.slice Am j cm) (mayL j)) ∧ Hid (UnoC w pb ⟨spL (fairC j), fairLast j k⟩ wq) ∧ Hid (B2 ≤ wq.heap.size)) (fun _ i _ => tu - (intOf i).toNat)
      case atStart => exact ⟨0, by omega, rfl, Lib.hid (OwnG.nil_ _ _ _ _), hrow, HU0, Lib.hid (by rw [HB3.out]; exact Nat.le_refl _)⟩
      case round =>
        rename World => wq
        obtain ⟨k, hk, rfl, htold, hmay, huk, hBq⟩ := hrel
        by_cases hkt : k < tu
        · have b1 : (k : Int) < (tu : Int) := by omega
          have b3 : IntKind.i64.wrap ((k : Int) + 1) = (k : Int) + 1 := i64_id _ (by omega) (by omega)
          obtain ⟨dm, _, hsh⟩ := hmay.out.shows
          have HT := Lib.hid (huk.out.turn Am j cm dm (mayL j) hml.symm hsh HTL.out (by rw [hml]; omega))
          rw [fair_step hn11 hn0] at HT
          have HNE : Hid (∀ r, r < k → k < r + j → ((str8 (chT (r % j))).toList == (str8 (chT (k % j))).toList) = false) := Lib.hid fun r h1 h2 => str8_ne (fair_ne hn11 h1 h2)
          have HSN := Lib.hid (toldL_snoc j k)
          have HTLL := Lib.hid (toldL_len j k)
          generalize hTk : chT (k % j) = T at *
          obtain ⟨At, ct, rfl, _, _⟩ := htold.out.form
          rw [HTLL.out] at htold ⊢
          have HTK := Lib.hid hTk
          clear hTk hsh
          go_upto_region 19 with (go_at_call 15; refine HT.out.mono ?_; rintro e w3 ⟨rfl, hu3, hk3⟩)
          have ht3 := OwnG.kb htold.out hk3 hms
          have hm3 := OwnG.kb hmay.out hk3 hms
          have e6 : IntKind.i64.wrap ((k : Int) - 1) = (k : Int) - 1 := i64_id _ (by omega) (by omega)
          have e7 : wrap64 ((k : Int) - 1) = (k : Int) - 1 := w64_id _ (by omega) (by omega)
          have e8 : IntKind.i64.wrap ((k : Int) - (j : Int)) = (k : Int) - (j : Int) := i64_id _ (by omega) (by omega)
          have e9 : wrap64 ((k : Int) - (j : Int)) = (k : Int) - (j : Int) := w64_id _ (by omega) (by omega)
          have hB3 : B2 ≤ w3.heap.size := Nat.le_trans hBq.out hk3.1
          -- what is done behind the inner loop
          have HT3 := Lib.hid ht3
          have HM3 := Lib.hid hm3
          have HU3 := Lib.hid hu3
          have HB3' := Lib.hid hB3
          have HCELL : Hid (∀ r (hr : r < k), ∃ g, At = some ⟨g, 0, none⟩ ∧ w3.cell? ⟨g, r, none⟩ = some (.string (str8 (chT (r % j))))) := Lib.hid fun r hr => by
            obtain ⟨g, h1, h2⟩ := ht3.cellS (by rw [HTLL.out]; omega)
            have := h2 r (by rw [HTLL.out]; exact hr)
            exact ⟨g, h1, by simpa [toldL] using this⟩
          have HMB2 := HMB
          clear ht3 hm3 hu3 hB3 hk3 HMB
          go_wp2_with fail
          go_loopw [15] (fun iv wz => ∃ r : Nat, r ≤ k ∧ k < r + j ∧ iv = .int .i64 ((r : Int) - 1) ∧ w3 = wz) (fun iv _ => (intOf iv + 1).toNat)
          case atStart => exact ⟨k, by omega, by omega, by first | rfl | simp_all, rfl⟩
          case round =>
            obtain ⟨r, hr, hrk, rfl, rfl⟩ := hrel
            have ho5 := HT3.out.alloc_ (.cells #[.string (str8 T)] 9)
            have hm5 : ShowsG strC (w3.alloc (.cells #[.string (str8 T)] 9)) w3.heap.size (.slice (some ⟨w3.heap.size, 0, none⟩) 1 1) [T] := ShowsG.lit (C := strC) [T] (by simp [Code.all, strC]) (by simp [maxLen])
            have HS5 : Hid (((toldL j k).length + [T].length) * 16 ≤ 140737488355328 ∧ (toldL j k).length + [T].length ≤ 140737488355328 ∧ B2 ≤ (w3.alloc (.cells #[.string (str8 T)] 9)).heap.size) := Lib.hid (by
              rw [HTLL.out]
              have := HB3'.out
              simp
              omega)
            have HEND : Hid (∀ v6 w6, OwnG strC 9 w6 B2 v6 (toldL j k ++ [T]) → (w3.alloc (.cells #[.string (str8 T)] 9)).grownBy w6 (Value.slice At k ct).ownBlock → Hid (OwnG strC 9 w6 B2 v6 (toldL j (k + 1))) ∧ Hid (OwnG strC 9 w6 w.heap.size (.slice Am j cm) (mayL j)) ∧ Hid (UnoC w pb ⟨spL (fairC j), fairLast j (k + 1)⟩ w6) ∧ Hid (B2 ≤ w6.heap.size)) := Lib.hid fun v6 w6 ho6 hg6 => by
              have hz := hg6.size
              have hz2 := HS5.out.2.2
              refine ⟨Lib.hid (HSN.out ▸ ho6), Lib.hid ((HM3.out.alloc_ _).keep fun g hg => hg6.block g ?_ ?_), Lib.hid ?_, Lib.hid (by omega)⟩
              · exact ((HM3.out.alloc_ _).block g hg).2
              · intro e
                have h1 := HMB2.out g hg
                have h2 := (HT3.out.block g e.symm).1
                omega
              · have := HU3.out.step ((Below.refl w3.heap.size w3).alloc (Nat.le_refl _) (.cells #[.string (str8 T)] 9))
                exact this.grown (ho5.mono HB2.out) hms hg6
            cases r with
            | zero =>
              go_wp2_with (at_builtin; refine wpList_appendG strC _ rfl (.tmp 81) (.tmp 83) 30 rfl B2 9 _ 16 Try.underlying30 infoStr rfl _ (toldL j k) rfl ho5 w3.heap.size _ [T] rfl hm5 HS5.out.1 HS5.out.2.1 HS5.out.2.2 ?_; intro v6 w6 ho6 hg6; obtain ⟨r1, r2, r3, r4⟩ := HEND.out v6 w6 ho6 hg6)
              go_roundw
              case rel => exact ⟨k + 1, by omega, by go_num, r1, r2, r3, r4⟩
              case measure => simp [intOf]; omega
            | succ r =>
              rw [show ((r + 1 : Nat) : Int) - 1 = (r : Int) by omega]
              by_cases c : k < r + j
              · have d1 : (k : Int) - (j : Int) < (r : Int) := by omega
                have d2 : (r : Int) < (k : Int) := by omega
                have d3 : IntKind.i64.wrap ((r : Int) - 1) = (r : Int) - 1 := i64_id _ (by omega) (by omega)
                have d4 : wrap64 ((r : Int) - 1) = (r : Int) - 1 := w64_id _ (by omega) (by omega)
                obtain ⟨g, rfl, hcell⟩ := HCELL.out r (by omega)
                have hne := HNE.out r (by omega) c
                generalize chT (r % j) = T2 at *
                go_wp2_with fail
                go_roundw
                case rel => exact ⟨r, by omega, c, by first | rfl | simp_all, by first | rfl | trivial⟩
                case measure => simp [intOf]
              · have d1 : ¬ (k : Int) - (j : Int) < (r : Int) := by omega
                have d2 : (0 : Int) ≤ (r : Int) := by omega
                go_wp2_with (at_builtin; refine wpList_appendG strC _ rfl (.tmp 81) (.tmp 83) 30 rfl B2 9 _ 16 Try.underlying30 infoStr rfl _ (toldL j k) rfl ho5 w3.heap.size _ [T] rfl hm5 HS5.out.1 HS5.out.2.1 HS5.out.2.2 ?_; intro v6 w6 ho6 hg6; obtain ⟨r1, r2, r3, r4⟩ := HEND.out v6 w6 ho6 hg6)
                go_roundw
                case rel => exact ⟨k + 1, by omega, by go_num, r1, r2, r3, r4⟩
                case measure => simp [intOf]; omega
        · clear HMB
          have b1 : ¬ (k : Int) < (tu : Int) := by omega
          go_wp2_with (go_at_call 8; refine (HH.out _).mono ?_; rintro e w9 ⟨rfl, hb9⟩)
          go_ret
          exact ⟨rfl, huk.out.bel.trans (hb9.mono huk.out.bel.size)⟩

set_option maxRecDepth 100000 in
set_option maxHeartbeats 1000000 in
theorem cfair_walk_lifted (os : Os) (started : os.Started) (H : Type) (enc : TypeId × Value → H) :
    ReturnsInHanded {} Try.checked os 5 .any (Rows.creditFairSpec.pre6 enc Try.prog Try.f5 Rows.creditFairRow.domain false) (Rows.creditFairSpec.post enc Try.prog Try.f5 false true false false) := by
  refine returnsInHanded_of_change_sized (C := Try.checked) own started (by kernel_rfl) Try.func5
    (ChangeSpec.witness6 (enc := enc) (C := Try.checked) false ⟨#[], #[.int .u8 0, .int .u8 0], []⟩ 8 (by kernel_rfl) (by kernel_rfl) (by kernel_rfl) (by kernel_rfl)) ?_
  intro W base args ds gs before hval0 hW hcnd hsz0 _
  have hval : ∀ (j : Nat) t v, Try.f5.params[j]? = some t → args[j]? = some v → Value.okWide Try.prog W .any base t v := hval0
  have hsz : (DataW.weightsEach Try.prog (Try.f5.params.toList ++ Rows.creditFairSpec.plain.varTypes Try.prog) (ds ++ gs)).all (· ≤ reachBytes) = true := hsz0
  have hW' := hW
  obtain ⟨p, q, hA0, hV, rfl, hfz, hnd⟩ := hW
  have hA : DataW.TrodAll enc Try.prog W 0 (fun _ => true) true Try.f5.params.toList args.toList ds p := hA0
  rw [Try.params5] at hA hval hsz
  obtain ⟨v0, vs0, d0, ds0, p0, q0, hargs, rfl, rfl, h0, r0⟩ := trodAll_cons hA
  obtain ⟨v1, vs1, d1, ds1, p1, q1, rfl, rfl, rfl, h1, r1⟩ := trodAll_cons r0
  obtain ⟨rfl, rfl, rfl⟩ := trodAll_nil r1
  obtain rfl : args = #[v0, v1] := by cases args; simp_all
  obtain ⟨rfl, rfl⟩ := trodVars_none hV
  have k0 := h0
  have lt0 : ∀ x ∈ p0, x.block < W.heap.size := by obtain ⟨m, hm⟩ := k0; exact DataW.trod_lt m _ _ _ hm
  have k1 := h1
  have lt1 : ∀ x ∈ p1, x.block < W.heap.size := by obtain ⟨m, hm⟩ := k1; exact DataW.trod_lt m _ _ _ hm
  obtain ⟨s0, rfl, rfl, rfl, ws0⟩ := open_int Try.underlying5 (hval 0 5 v0 rfl rfl) h0
  obtain ⟨s00, s01⟩ := u8_range ws0
  obtain ⟨S0, rfl⟩ := Int.eq_ofNat_of_zero_le s00
  obtain ⟨s1, rfl, rfl, rfl, ws1⟩ := open_int Try.underlying5 (hval 1 5 v1 rfl rfl) h1
  obtain ⟨s10, s11⟩ := u8_range ws1
  obtain ⟨S1, rfl⟩ := Int.eq_ofNat_of_zero_le s10
  clear hA0 hval0
  refine (cfair_walk S0 S1 W (by omega) (by omega)).mono fun e W' ⟨he, bel⟩ => ?_
  subst he
  exact ⟨_, rfl, _, _, _, [], _, [], hW', trodAll_mk1 (shut_bool Try.underlying4 _), (trodAll_cons_mk (Below.trod laidOut (by kernel_rfl) (of_decide_eq_true (by kernel_rfl)) k0 bel lt0) (trodAll_cons_mk (Below.trod laidOut (by kernel_rfl) (of_decide_eq_true (by kernel_rfl)) k1 bel lt1) trodAll_mk0)), rfl, bel.frame _, fun h => by cases h⟩

theorem creditFair_holds : Rows.CreditFairSaid :=
  OpenClaim.holds_of_wide 5 Try.f5 rfl rfl rfl rfl rfl rfl rfl ⟨rfl, rfl, rfl, rfl, rfl⟩ rfl rfl rfl rfl rfl (by kernel_rfl) Try.func5 (by kernel_rfl)
    (of_decide_eq_true (by kernel_rfl)) (by unfold Func.isWrapper; first | (rw [if_pos (by decide +kernel)]; kernel_rfl) | (rw [if_neg (by decide +kernel)]; exact ⟨rfl, rfl⟩))
    (fun os started H enc _ => cfair_walk_lifted os started H enc)
#print axioms creditFair_holds
end Go.Proofs.Ytknfiiacalfelaa
