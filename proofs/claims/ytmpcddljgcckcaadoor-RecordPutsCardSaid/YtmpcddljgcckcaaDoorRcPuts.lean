/-
  RecordPuts: for every row of records the law returns true, and its argument reads as before; the table is tied to the program's text.
  Conditions: the package-level table reads as the program's own text lays it (the card ties it).
-/
import Derived.Test.YtmpcddljgcckcaaDoorRcR
import Derived.Test.YtmpcddljgcckcaaDoorRcQP
import Derived.Test.YtmpcddljgcckcaaDoorCards
import Derived.Test.YtmpcddljgcckcaaDoorTie
namespace Go.Proofs.YtmpcddljgcckcaaDoor
open Go.ChangeShapes Go.WideShapes Go.ChangeAt Go.RowKit
open Go.ChangeMaps (open_string shut_string)
open Crc (sealD okSeal sealD_length sealD_ok okSeal_iff openD Tab tab)
set_option linter.unusedVariables false
set_option linter.unusedSimpArgs false

set_option maxRecDepth 100000 in
set_option maxHeartbeats 4000000 in
theorem puts_walk (A : Option Addr) (c d0 : Nat) (l : List Rc) (w : World) (hT : Tab w) (h : ShowsG rcC w d0 (.slice A l.length c) l) (hl : l.length ≤ 17592186044416) :
    Calls Tryd.prog 3 #[.slice A l.length c] w fun e w' => e = .returned (.bool true) ∧ Below w.heap.size w w' := by
  have HT := Lib.hid (fun w' (hb : Below w.heap.size w w') => hT.below hb hT.1)
  have HL := Lib.hid (fun w' (hb : Below w.heap.size w w') => (h.keep hb.size fun hp => hb.block d0 (h.lt hp) : ShowsG rcC w' d0 (.slice A l.length c) l))
  have HG := Lib.hid (rgreat_any A c d0 l w h hl)
  clear h hT
  go_enter Tryd.func3, Tryd.ntmps3
  go_wp2_with fail
  with_reducible refine HG.out.mono ?_
  rintro e w1 ⟨b, rfl, rfl, hb0⟩
  cases b with
  | true =>
    have HH := Lib.hid (rhead_any w1 (HT.out w1 (Below.refl _ _)))
    go_wp2_with fail
    with_reducible refine HH.out.mono ?_
    rintro e w2 ⟨rfl, hb⟩
    go_wp2_with fail
    go_ret
    exact ⟨rfl, hb⟩
  | false =>
    obtain ⟨h40, hsz⟩ := hb0 rfl
    have h65 : ∀ r ∈ l, r.p.size ≤ 65536 := fun r hr => Nat.le_trans (hsz r hr) (by omega)
    have h70 : ∀ r ∈ l, r.p.size ≤ 70000 := fun r hr => Nat.le_trans (hsz r hr) (by omega)
    have HPUT := Lib.hid (rput_ok A c d0 l w1 (HT.out w1 (Below.refl _ _)) (HL.out w1 (Below.refl _ _)) (by omega) h65)
    have HQP := Lib.hid (fun W (hb : Below w1.heap.size w1 W) => show Calls Tryd.prog 12 #[.slice A l.length c] W fun e w' => e = .returned (.tuple #[.string (str8 (recsB l)), .int .i64 0]) ∧ Below W.heap.size W w' from by
      refine (qrput_any A c d0 l W (HL.out W hb) (by omega) h70).mono ?_
      rintro e w' ⟨rfl, hb⟩
      rw [putR_ok h65]
      exact ⟨rfl, hb⟩)
    generalize str8 (recsB l) = S at *
    clear hsz h65 h70 hb0
    go_wp2_with fail
    with_reducible refine HPUT.out.mono ?_
    rintro e w2 ⟨rfl, hb2⟩
    go_wp2_with fail
    with_reducible refine (HQP.out w2 hb2).mono ?_
    rintro e w3 ⟨rfl, hb3⟩
    have hw3 : Below w1.heap.size w1 w3 := hb2.trans (hb3.mono hb2.size)
    have HH := Lib.hid (rhead_any w3 (HT.out _ hw3))
    go_wp2_with (with_reducible refine HH.out.mono ?_; rintro e w4 ⟨rfl, hb4⟩)
    go_ret
    exact ⟨rfl, hw3.trans (hb4.mono hw3.size)⟩

set_option maxRecDepth 100000 in
theorem puts_walk_lifted (os : Os) (started : os.Started) (H : Type) (enc : TypeId × Value → H) :
    ReturnsInHanded {} Tryd.checked os 3 .any (fun w args => (Rows.recordPutsSpec.pre enc Tryd.prog Tryd.f3 [] false w args ∧ laidMetH Tryd.prog laid1 w) ∧ sizedMet enc Tryd.prog Tryd.f3 (OpenSpec.ofChange Rows.recordPutsSpec) false w args)
      (Rows.recordPutsSpec.post enc Tryd.prog Tryd.f3 false true false false) := by
  refine returnsInHanded_of_change_and (C := Tryd.checked) (X := fun w _ => laidMetH Tryd.prog laid1 w) (fun _ _ _ hh h => h.of_heap hh) own started (by kernel_rfl) Tryd.func3
    (ChangeSpec.witness_shaped (enc := enc) (C := Tryd.checked) (os := os) (X := fun w _ => laidMetH Tryd.prog laid1 w) false (World.doorLaid Tryd.prog 14 os) #[.slice none 0 0] 8 rfl (World.shaped_of_RefB (by kernel_rfl) (by kernel_rfl)) (by kernel_rfl) (by kernel_rfl) (by kernel_rfl) (door_met os _)) ?_
  intro W base args ds gs before hval0 hW _ hsz0 hL _
  have hval : ∀ (j : Nat) t v, Tryd.f3.params[j]? = some t → args[j]? = some v → Value.okWide Tryd.prog W .any base t v := hval0
  have hsz : (DataW.weightsEach Tryd.prog (Tryd.f3.params.toList ++ Rows.recordPutsSpec.plain.varTypes Tryd.prog) (ds ++ gs)).all (· ≤ reachBytes) = true := hsz0
  have hW' := hW
  obtain ⟨p, q, hA0, hV, rfl, hfz, hnd⟩ := hW
  have hA : DataW.TrodAll enc Tryd.prog W 0 (fun _ => true) true Tryd.f3.params.toList args.toList ds p := hA0
  rw [Tryd.params3] at hA hval hsz
  obtain ⟨v0, vs0, d0, ds0, p0, q0, hargs, rfl, rfl, h0, r0⟩ := trodAll_cons hA
  obtain ⟨rfl, rfl, rfl⟩ := trodAll_nil r0
  obtain rfl : args = #[v0] := by cases args; simp_all
  obtain ⟨rfl, rfl⟩ := trodVars_none hV
  have k0 := h0
  have lt0 : ∀ x ∈ p0, x.block < W.heap.size := by obtain ⟨m, hm⟩ := k0; exact DataW.trod_lt m _ _ _ hm
  obtain ⟨A0, c0, b0, L0, rfl, sh0, l0⟩ := open_recs (hval 0 22 v0 rfl rfl) h0 hsz 0 rfl rfl
  clear hA0 hval0
  refine (puts_walk A0 c0 b0 L0 W (tab_of_laid hL) sh0 (by omega)).mono fun e W' ⟨he, bel⟩ => ?_
  subst he
  exact ⟨_, rfl, _, _, _, [], _, [], hW', trodAll_mk1 (shut_bool Tryd.underlying4 _), (trodAll_cons_mk (Below.trod laidOut (by kernel_rfl) (of_decide_eq_true (by kernel_rfl)) k0 bel lt0) trodAll_mk0), rfl, bel.frame _, fun h => by cases h⟩

theorem puts_walk_over : Rows.RecordPutsSaid :=
  OpenClaim.holds_of_wide 3 Tryd.f3 rfl rfl rfl rfl rfl rfl rfl ⟨rfl, rfl, rfl, rfl, rfl⟩ rfl rfl rfl rfl rfl (by kernel_rfl) Tryd.func3 (by kernel_rfl)
    (of_decide_eq_true (by kernel_rfl)) (by unfold Func.isWrapper; first | (rw [if_pos (by decide +kernel)]; kernel_rfl) | (rw [if_neg (by decide +kernel)]; exact ⟨rfl, rfl⟩))
    (fun os started H enc _ => puts_walk_lifted os started H enc)

theorem recordPuts_holds : Rows.RecordPutsCardSaid :=
  Claim7.holds_tied_plain_at .later [] [.data] true (true, "a9d5fd1340711233ce61910b50a92aefee660ba42ae3caf9da3306c67fcf17ac") false
    puts_walk_over (fun _ h => by cases h) (by kernel_rfl) (fun _ h => by cases h) recordPuts_row_tie rfl ⟨rfl, rfl⟩ (by kernel_rfl) rfl
    (fun f fn hf hfn => by
      obtain rfl : f = 3 := Option.some.inj ((show Tryd.prog.funcNamed "posthouse/posthouselaw11.RecordPuts" = some 3 by kernel_rfl).symm.trans hf) |>.symm
      obtain rfl : fn = Tryd.f3 := (Option.some.inj (Tryd.func3.symm.trans hfn)).symm
      exact ⟨by kernel_rfl, fun j t ht => by
        rw [Tryd.params3] at ht
        have hm : t ∈ [22] := by simpa using Array.mem_of_getElem? ht
        have hall : ([22].all fun u => !Tryd.prog.wantsStandIn u) = true := by kernel_rfl
        exact (show Tryd.prog.wantsStandIn t = false by simpa using List.all_eq_true.1 hall t hm)⟩)
    (by kernel_rfl)
#print axioms recordPuts_holds
end Go.Proofs.YtmpcddljgcckcaaDoor
