/-
  CrcPieces: for every input the law returns true, and its argument reads as before; the table is tied to the program's text.
  Conditions: the package-level table reads as the program's own text lays it (the card ties it).
-/
import Derived.Test.YtelmbboapbmggaaDoorR
import Derived.Test.YtelmbboapbmggaaDoorCards
import Derived.Test.YtelmbboapbmggaaDoorTie
namespace Go.Proofs.YtelmbboapbmggaaDoor
open Go.ChangeShapes Go.WideShapes Go.ChangeAt Go.RowKit
set_option linter.unusedVariables false
set_option linter.unusedSimpArgs false

section
variable {H : Type} {enc : TypeId × Value → H} {P : Program} {w : World} {base : Nat} {spare : Nat → Bool} {held : Bool}
/-- A value that reads as a slice of bytes shows a list. -/
theorem shows_of_trod {e u : TypeId} (he : P.underlying e = some (.slice u)) (hu : P.underlying u = some (.int .u8)) (hcu : P.cellsOf u = 1) {fuel : Nat} {v : Value} {x : DataW H × List MemPlace}
    (h : DataW.trod enc P w base spare held fuel e [v] = some x) : ∃ (d0 : Nat) (l : List UInt8), Shows w d0 v l := by
  rcases open_ints he hu hcu h with ⟨hcs, _⟩ | ⟨a, n, c, zs, hcs, _, hl, hm, hz, _, hcell, hwz⟩
  · simp at hcs
    subst hcs
    exact ⟨0, [], Shows.nil_ _ _⟩
  · simp at hcs
    subst hcs
    have hzl : n ≤ zs.length := by rw [hz]; split <;> omega
    have hll : ((zs.take n).map fun q : Int => UInt8.ofNat q.toNat).length = n := by simp; omega
    refine ⟨a.block, (zs.take n).map fun q => UInt8.ofNat q.toNat, some a, c, by rw [hll], by omega, hm, fun hp => ?_⟩
    obtain ⟨b, o, rfl⟩ := addr_plain (hcell 0 (by omega))
    have hc0 := hcell 0 (by omega)
    refine ⟨o, rfl, World.block_lt_of_cell? w _ hc0, fun k hk => ?_⟩
    have hk' : k < n := by omega
    have hcc := hcell k (by omega)
    rw [add_plain'] at hcc
    rw [hcc]
    have hw := hwz (zs.getD k 0) (by simp only [List.getD_eq_getElem?_getD, List.getElem?_eq_getElem (show k < zs.length by omega), Option.getD_some]; exact List.getElem_mem _)
    simp only [Lit.wf, IntKind.min, IntKind.max, IntKind.signed, IntKind.bits, Bool.and_eq_true, decide_eq_true_eq] at hw
    have e : ((zs.take n).map fun q : Int => UInt8.ofNat q.toNat)[k]'hk = UInt8.ofNat (zs.getD k 0).toNat := by
      simp [List.getD, show k < zs.length by omega]
    rw [e]
    clear e hcc
    generalize zs.getD k 0 = q at *
    simp at hw
    simp only [u8c, UInt8.toNat_ofNat']
    congr 2
    omega

theorem open_lists {t e u : TypeId} (ht : P.underlying t = some (.slice e)) (he : P.underlying e = some (.slice u)) (hu : P.underlying u = some (.int .u8)) (hC : P.cellsOf e = 1) (hcu : P.cellsOf u = 1) {r : Reach} {b0 : Nat} {v : Value} {d : DataW H} {p : List MemPlace}
    (hv : Value.okWide P w r b0 t v) (h : DataW.Trod enc P w base spare held t v d p) :
    ∃ (A : Option Addr) (n c d0 : Nat) (V : Nat → Value) (L : Nat → List UInt8) (D : Nat → Nat), v = .slice A n c ∧ ShowsN w d0 (.slice A n c) n 1 (fun i _ => V i) ∧ n ≤ c ∧ ∀ i, i < n → Shows w (D i) (V i) (L i) := by
  obtain ⟨A, n, c, rfl⟩ := okWide_slice ht hv
  obtain ⟨fuel, hf⟩ := h
  rcases Deep.open_slice1 ht hC hf with ⟨hcs, _⟩ | ⟨a, len, cap, m, fu, V, D, Pl, hcs, _, hl, hm, hmm, hx, hel⟩
  · simp [Value.cells] at hcs
    obtain ⟨rfl, rfl, rfl⟩ := hcs
    exact ⟨none, 0, 0, 0, fun _ => undef, fun _ => [], fun _ => 0, rfl, ⟨none, 0, rfl, Nat.le_refl _, by simp [maxLen], fun hp => absurd hp (by omega)⟩, by simp, fun i hi => absurd hi (by omega)⟩
  · simp [Value.cells] at hcs
    obtain ⟨rfl, rfl, rfl⟩ := hcs
    have hnm : n ≤ m := by rw [hmm]; split <;> omega
    have each : ∀ i, ∃ y : Nat × List UInt8, i < n → Shows w y.1 (V i) y.2 := fun i => by
      by_cases hi : i < n
      · obtain ⟨d0, l, h⟩ := shows_of_trod he hu hcu (hel i (by omega)).2
        exact ⟨(d0, l), fun _ => h⟩
      · exact ⟨(0, []), fun h => absurd h hi⟩
    refine ⟨some a, n, c, a.block, V, fun i => (each i).choose.2, fun i => (each i).choose.1, rfl, ⟨some a, c, rfl, hl, hm, fun hp => ?_⟩, hl, fun i hi => (each i).choose_spec hi⟩
    obtain ⟨b, o, rfl⟩ := addr_plain (hel 0 (by omega)).1
    refine ⟨o, rfl, World.block_lt_of_cell? w _ (hel 0 (by omega)).1, fun i k hi hk => ?_⟩
    have := (hel i (by omega)).1
    rw [add_plain'] at this
    rw [show i * 1 + k = i by omega]
    exact this
end

/-- The pieces up to k, put together. -/
def glue (L : Nat → List UInt8) : Nat → List UInt8
  | 0 => []
  | k + 1 => glue L k ++ L k

set_option maxRecDepth 100000 in
set_option maxHeartbeats 1000000 in
theorem pieces_walk (A : Option Addr) (n c d : Nat) (V : Nat → Value) (L : Nat → List UInt8) (D : Nat → Nat) (w : World) (h : Tab w) (hs : ShowsN w d (.slice A n c) n 1 (fun i _ => V i)) (hn : n ≤ c) (hel : ∀ i, i < n → Shows w (D i) (V i) (L i)) :
    Calls Tryd.prog 8 #[.slice A n c] w fun e w' => e = .returned (.bool true) ∧ Below w.heap.size w w' := by
  go_enter Tryd.func8, Tryd.ntmps8
  by_cases h200 : 200 < n
  · go_wp2_with (go_at_call 14; refine (head_any _ h).mono ?_; rintro e w4 ⟨rfl, hb4⟩)
    go_ret
    exact ⟨rfl, hb4⟩
  · go_wp2_with fail
    refine (sum_any none 0 0 [] w h (Shows.nil_ _ _) (by simp)).mono ?_
    rintro e w' ⟨rfl, rfl⟩
    go_wp2_with fail
    go_loopw [3, 4, 5] (fun sm al i wr => ∃ k : Nat, k ≤ n ∧ i = .int .i64 k ∧ sm = .int .u32 (sum (glue L k) : Nat) ∧ Own 5 wr w.heap.size al (glue L k) ∧ (glue L k).length ≤ 1000 * k ∧ Below w.heap.size w wr) (fun _ _ i _ => n - (intOf i).toNat)
    case atStart => exact ⟨0, by omega, rfl, rfl, Own.nil_ _ _ _, by simp [glue], Below.refl _ _⟩
    case round =>
      obtain ⟨k, hk, rfl, rfl, ho, hgl, hbw⟩ := hrel
      have hT : Tab wr := h.below hbw h.1
      have hslt := sum_lt (glue L k)
      by_cases hkn : k < n
      · obtain ⟨o, rfl, hd, hcl⟩ := (hs.below hbw).at_ (by omega)
        have hc : wr.cell? ⟨d, o + k, none⟩ = some (V k) := by simpa using hcl k 0 hkn (by omega)
        have hsk : Shows wr (D k) (V k) (L k) := (hel k hkn).keep hbw.size fun hp => hbw.block _ ((hel k hkn).lt hp)
        have hgs : glue L (k + 1) = glue L k ++ L k := rfl
        have hma : more (sum (glue L k)) (L k) = sum (glue L (k + 1)) := by rw [hgs, sum, sum, more_append]
        have HGS := Lib.hid hgs
        have HMA := Lib.hid hma
        obtain ⟨A', c', eV, hlc, hcm, hsc⟩ := hsk
        rw [eV] at hc
        have hsk : Shows wr (D k) (.slice A' (L k).length c') (L k) := ⟨A', c', rfl, hlc, hcm, hsc⟩
        clear hcl eV hsc hgs hma
        by_cases hbig : 1000 < (L k).length
        · go_wp2_with (go_at_call 14; refine (head_any _ hT).mono ?_; rintro e w4 ⟨rfl, hb4⟩)
          go_ret
          exact ⟨rfl, hbw.trans (hb4.mono hbw.size)⟩
        · have hmore := Lib.hid (more_any A' c' (sum (glue L k)) (D k) (L k) wr hT hslt hsk (by omega))
          rw [HMA.out] at hmore
          generalize sum (glue L k) = sk at *
          go_wp2_with fail
          refine hmore.out.mono ?_
          rintro e w' ⟨rfl, rfl⟩
          go_wp2_with (at_builtin
                       refine wpList_append8 _ rfl (.tmp 30) (.tmp 34) 23 rfl w.heap.size 5 Tryd.underlying23 info5 u4 _ rfl ho (D k) _ (L k) rfl hsk (by omega) hbw.size ?_
                       intro v1 w1 ho1 hg1)
          go_roundw
          case rel => exact ⟨k + 1, by omega, by go_num, rfl, by rw [HGS.out]; exact ho1, by rw [HGS.out, List.length_append]; omega, hbw.grown hg1 hbw.size (fun g hg => (ho.block g hg).1)⟩
          case measure => simp [intOf]; omega
      · obtain rfl : k = n := by omega
        obtain ⟨g, _, hsg⟩ := ho.shows
        obtain ⟨A', c', rfl, _, _⟩ := ho.form
        have hfin := Lib.hid (sum_any A' c' g (glue L k) wr hT hsg (by omega))
        generalize sum (glue L k) = sk at *
        go_wp2_with (first
          | (go_at_call 10; refine hfin.out.mono ?_; rintro e w' ⟨rfl, rfl⟩)
          | (go_at_call 14; refine (head_any _ hT).mono ?_; rintro e w4 ⟨rfl, hb4⟩))
        go_ret
        exact ⟨rfl, hbw.trans (hb4.mono hbw.size)⟩

set_option maxRecDepth 100000 in
theorem pieces_lifted (os : Os) (started : os.Started) (H : Type) (enc : TypeId × Value → H) :
    ReturnsInHanded {} Tryd.checked os 8 .any (fun w args => (Rows.crcPiecesSpec.pre enc Tryd.prog Tryd.f8 [] false w args ∧ laidMetH Tryd.prog laid1 w) ∧ sizedMet enc Tryd.prog Tryd.f8 (OpenSpec.ofChange Rows.crcPiecesSpec) false w args)
      (Rows.crcPiecesSpec.post enc Tryd.prog Tryd.f8 false true false false) := by
  refine returnsInHanded_of_change_and (C := Tryd.checked) (X := fun w _ => laidMetH Tryd.prog laid1 w) (fun _ _ _ hh h => h.of_heap hh) own started (by kernel_rfl) Tryd.func8
    (ChangeSpec.witness_shaped (enc := enc) (C := Tryd.checked) (os := os) (X := fun w _ => laidMetH Tryd.prog laid1 w) false (World.doorLaid Tryd.prog 14 os) #[.slice none 0 0] 8 rfl (World.shaped_of_RefB (by kernel_rfl) (by kernel_rfl)) (by kernel_rfl) (by kernel_rfl) (by kernel_rfl) (door_met os _)) ?_
  intro W base args ds gs before hval0 hW _ hsz0 hL _
  have hval : ∀ (j : Nat) t v, Tryd.f8.params[j]? = some t → args[j]? = some v → Value.okWide Tryd.prog W .any base t v := hval0
  have hsz : (DataW.weightsEach Tryd.prog (Tryd.f8.params.toList ++ Rows.crcPiecesSpec.plain.varTypes Tryd.prog) (ds ++ gs)).all (· ≤ reachBytes) = true := hsz0
  have hW' := hW
  obtain ⟨p, q, hA0, hV, rfl, hfz, hnd⟩ := hW
  have hA : DataW.TrodAll enc Tryd.prog W 0 (fun _ => true) true Tryd.f8.params.toList args.toList ds p := hA0
  rw [Tryd.params8] at hA hval hsz
  obtain ⟨v0, vs0, d0, ds0, p0, q0, hargs, rfl, rfl, h0, r0⟩ := trodAll_cons hA
  obtain ⟨rfl, rfl, rfl⟩ := trodAll_nil r0
  obtain rfl : args = #[v0] := by cases args; simp_all
  obtain ⟨rfl, rfl⟩ := trodVars_none hV
  have k0 := h0
  have lt0 : ∀ x ∈ p0, x.block < W.heap.size := by obtain ⟨m, hm⟩ := k0; exact DataW.trod_lt m _ _ _ hm
  obtain ⟨A0, n0, c0, b0, V0, L0, D0, rfl, sh0, l0, el0⟩ := open_lists Tryd.underlying35 Tryd.underlying23 Tryd.underlying5 (by kernel_rfl) (by kernel_rfl) (hval 0 35 v0 rfl rfl) h0
  clear hA0 hval0
  refine (pieces_walk A0 n0 c0 b0 V0 L0 D0 W (tab_of_laid hL) sh0 l0 el0).mono fun e W' ⟨he, bel⟩ => ?_
  subst he
  exact ⟨_, rfl, _, _, _, [], _, [], hW', trodAll_mk1 (shut_bool Tryd.underlying4 _), (trodAll_cons_mk (Below.trod laidOut (by kernel_rfl) (of_decide_eq_true (by kernel_rfl)) k0 bel lt0) trodAll_mk0), rfl, bel.frame _, fun h => by cases h⟩

theorem pieces_over : Rows.CrcPiecesSaid :=
  OpenClaim.holds_of_wide 8 Tryd.f8 rfl rfl rfl rfl rfl rfl rfl ⟨rfl, rfl, rfl, rfl, rfl⟩ rfl rfl rfl rfl rfl (by kernel_rfl) Tryd.func8 (by kernel_rfl)
    (of_decide_eq_true (by kernel_rfl)) (by unfold Func.isWrapper; first | (rw [if_pos (by decide +kernel)]; kernel_rfl) | (rw [if_neg (by decide +kernel)]; exact ⟨rfl, rfl⟩))
    (fun os started H enc _ => pieces_lifted os started H enc)

theorem crcPieces_holds : Rows.CrcPiecesCardSaid :=
  Claim7.holds_tied_plain_at .later [] [.data] true (true, "0f65ae8225e0c38ae43da0f6f4820c298e4b4f6c39bdfae3028bd6766e63b85b") false
    pieces_over (fun _ h => by cases h) (by kernel_rfl) (fun _ h => by cases h) crcPieces_row_tie rfl ⟨rfl, rfl⟩ (by kernel_rfl) rfl
    (fun f fn hf hfn => by
      obtain rfl : f = 8 := Option.some.inj ((show Tryd.prog.funcNamed "posthouse/posthouselaw02.CrcPieces" = some 8 by kernel_rfl).symm.trans hf) |>.symm
      obtain rfl : fn = Tryd.f8 := (Option.some.inj (Tryd.func8.symm.trans hfn)).symm
      exact ⟨by kernel_rfl, fun j t ht => by
        rw [Tryd.params8] at ht
        have hm : t ∈ [35] := by simpa using Array.mem_of_getElem? ht
        have hall : ([35].all fun u => !Tryd.prog.wantsStandIn u) = true := by kernel_rfl
        exact (show Tryd.prog.wantsStandIn t = false by simpa using List.all_eq_true.1 hall t hm)⟩)
    (by kernel_rfl)
#print axioms crcPieces_holds
end Go.Proofs.YtelmbboapbmggaaDoor
