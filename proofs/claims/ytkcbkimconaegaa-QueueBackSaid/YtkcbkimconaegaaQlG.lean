/-
  Messages are handed out by rising numbers, each once: for any numbers that rise, and any owners.
  Conditions: none.
-/
import Derived.Test.YtkcbkimconaegaaQlF
namespace Go.Proofs.Ytkcbkimconaegaa
open Go.RowKit
set_option linter.unusedVariables false
set_option linter.unusedSimpArgs false
set_option maxRecDepth 100000

set_option maxHeartbeats 8000000 in
theorem qorder_walk (A1 : Option Addr) (k1 d1 : Nat) (ss : List Nat) (A2 : Option Addr) (k2 d2 : Nat) (os : List Nat) (w : World) (h1 : ShowsG (natC .u16) w d1 (.slice A1 ss.length k1) ss) (hl1 : ss.length ≤ 1000000000000000) (hs1 : ∀ x ∈ ss, x < 65536) (h2 : ShowsG (natC .u8) w d2 (.slice A2 os.length k2) os) (hl2 : os.length ≤ 1000000000000000) (hs2 : ∀ x ∈ os, x < 256) :
    Calls Try.prog 4 #[.slice A1 ss.length k1, .slice A2 os.length k2] w fun e w' => e = .returned (.bool true) ∧ Below w.heap.size w w' := by
  have HN := Lib.hid (fun w' => pnewQ_any 100 w' (by omega))
  rw [show min 100 4611686018427387904 = 100 from rfl] at HN
  have HH := Lib.hid (fun w' (hb : Below w.heap.size w w') => (qhead_any w').mono fun e w'' (he : e = .returned (.bool true) ∧ Below w'.heap.size w' w'') => (⟨he.1, hb.trans (he.2.mono hb.size)⟩ : e = .returned (.bool true) ∧ Below w.heap.size w w''))
  have HC1 := Lib.hid (fun (j : Nat) (hj : j < ss.length) => show ∃ o, A1 = some ⟨d1, o, none⟩ ∧ (∀ w', Below w.heap.size w w' → w'.cell? ⟨d1, o + j, none⟩ = some (.int .u16 (ss[j] : Nat))) ∧ ss[j] < 65536 from by
    obtain ⟨o, e, hd, hc⟩ := h1.at_ (by omega)
    refine ⟨o, e, fun w' hb => ?_, hs1 _ (List.getElem_mem hj)⟩
    have := hc j hj 0 (by decide)
    simp only [natC, Nat.mul_one, Nat.add_zero] at this
    exact (World.cell?_of_block (w := w) (hb.block d1 hd)).trans this)
  have HC2 := Lib.hid (fun (j : Nat) (hj : j < os.length) => show ∃ o, A2 = some ⟨d2, o, none⟩ ∧ (∀ w', Below w.heap.size w w' → w'.cell? ⟨d2, o + j, none⟩ = some (.int .u8 (os[j] : Nat))) ∧ os[j] < 256 from by
    obtain ⟨o, e, hd, hc⟩ := h2.at_ (by omega)
    refine ⟨o, e, fun w' hb => ?_, hs2 _ (List.getElem_mem hj)⟩
    have := hc j hj 0 (by decide)
    simp only [natC, Nat.mul_one, Nat.add_zero] at this
    exact (World.cell?_of_block (w := w) (hb.block d2 hd)).trans this)
  have HBR := Lib.hid (Below.refl w.heap.size w)
  clear h1 hs1 h2 hs2
  by_cases hgt : 100 < ss.length
  · have hg : (100 : Int) < (ss.length : Int) := by omega
    go_enter Try.func4, Try.ntmps4
    go_wp2_with fail
    refine (HH.out _ HBR.out).mono ?_
    rintro e w1 ⟨rfl, hb1⟩
    go_wp2_with fail
    go_ret
    exact ⟨rfl, hb1⟩
  · have hg : ¬ (100 : Int) < (ss.length : Int) := by omega
    go_enter Try.func4, Try.ntmps4
    go_wp2_with fail
    refine (HN.out _).mono ?_
    rintro e w1 ⟨pb, F, rfl, hp1, hb1⟩
    have hQ0 : (⟨100, [], 0, 0⟩ : QP).ok := ⟨by show 100 ≤ _; omega, by show 0 + 0 ≤ 100; omega, fun x hx => (by cases hx), by show 0 < 18446744073709551616; omega, List.Pairwise.nil, fun x hx => (by cases hx)⟩
    have HS0 : Hid (OrdS w pb (.slice none 0 0) [] (ordQ [] 0) w1) := Lib.hid ⟨UnX.of_below hb1 ⟨F, hp1⟩ hQ0 (fun k hk => (by cases hk)), OwnG.nil_ _ _ _ _⟩
    clear hp1 hb1 hQ0 HBR HN
    go_wp2_with fail
    go_loopw [6, 7, 8] (fun idv lv iv wr => ∃ (id : Nat) (L : List Nat) (A : Option Addr) (c : Nat), idv = .int .u64 id ∧ lv = .slice A L.length c ∧ iv = .int .i64 L.length ∧ L.length ≤ ss.length ∧ id ≤ L.length * 65536 ∧ Hid (OrdS w pb (.slice A L.length c) L (ordQ L id) wr)) (fun _ _ iv _ => ss.length - (intOf iv).toNat)
    case atStart => exact ⟨0, [], none, 0, rfl, rfl, rfl, Nat.zero_le _, Nat.zero_le _, HS0⟩
    case round =>
      obtain ⟨id, L, A, c, rfl, rfl, rfl, hL, hid, HS⟩ := hrel
      rename World => wr
      by_cases hlt : L.length < ss.length
      · have hli : (L.length : Int) < (ss.length : Int) := by omega
        obtain ⟨o, rfl, hc, hx⟩ := HC1.out _ hlt
        have k1 := hc wr HS.out.d.bel
        obtain ⟨x, hxx⟩ : ∃ x, x = ss[L.length] := ⟨_, rfl⟩
        rw [← hxx] at k1 hx
        clear hxx hc
        obtain ⟨n, hn⟩ : ∃ n, n = id + 1 + x := ⟨_, rfl⟩
        have hi0 : IntKind.u64.wrap (x : Int) = (x : Int) := by rw [IntKind.wrap_u64]; omega
        have hi1 : IntKind.u64.wrap ((id : Int) + 1) = (id : Int) + 1 := by rw [IntKind.wrap_u64]; omega
        have hi2 : IntKind.u64.wrap ((id : Int) + 1 + (x : Int)) = (n : Int) := by rw [IntKind.wrap_u64]; omega
        have HPU := Lib.hid (HS.out.d.put (by show (L.map _).length ≤ _; rw [List.length_map]; omega) n (by omega))
        rw [ord_put (by omega) (by omega)] at HPU
        have hn2 : n ≤ (L.length + 1) * 65536 := by omega
        have HN2 := Lib.hid hn2
        clear hn2 hn hx hid
        go_wp2_with fail
        refine HPU.out.mono ?_
        rintro e w2 ⟨rfl, hd2, hk2⟩
        have HS2 := Lib.hid (HS.out.keep hd2 hk2)
        clear HPU HS hd2 hk2 k1
        have hm : ShowsG (natC .u64) (w2.alloc (Obj.cells #[.int .u64 n] 22)) w2.heap.size (.slice (some ⟨w2.heap.size, 0, none⟩) 1 1) [n] := ShowsG.lit (C := natC .u64) [n] (by simp [Code.all, natC]) (by simp [maxLen])
        have ho2 := HS2.out.o.alloc_ (Obj.cells #[.int .u64 n] 22)
        have hb2 : w.heap.size ≤ (w2.alloc (Obj.cells #[.int .u64 n] 22)).heap.size := by have := HS2.out.d.bel.size; simp; omega
        go_wp2_with (at_builtin
                     refine wpList_appendW (natC .u64) _ rfl (.tmp 40) (.tmp 42) 42 rfl w.heap.size 22 _ 8 Try.underlying42 infoU64 rfl _ L rfl ho2 w2.heap.size _ [n] rfl hm (by simp) (by simp; omega) (by simp; omega) hb2 ?_
                     intro v3 w3 ho3 hg3 hv3)
        have HS3 := Lib.hid (HS2.out.push hg3 hv3 ho3)
        obtain ⟨A3, c3, hf3, _, _⟩ := ho3.form
        clear ho3 hg3 hv3 ho2 hm hb2
        go_roundw
        case rel => exact ⟨n, L ++ [n], A3, c3, rfl, hf3, by rw [List.length_append, List.length_singleton]; go_num, by rw [List.length_append, List.length_singleton]; omega, by rw [List.length_append, List.length_singleton]; exact HN2.out, by rw [← hf3]; exact HS3⟩
        case measure => simp [intOf]; omega
      · have hli : ¬ (L.length : Int) < (ss.length : Int) := by omega
        have hL100 : L.length ≤ 100 := by omega
        have HS1 : Hid (OrdS w pb (.slice A L.length c) L ⟨100, L.map (fun n => (n, 0)), 0, id⟩ wr) := HS
        clear hid HC1
        go_wp2_with fail
        go_loopw [9] (fun iv wz => ∃ (j : Nat) (M : List (Nat × Nat)), iv = .int .i64 j ∧ j ≤ L.length ∧ Hid (MidQ L j M) ∧ Hid (OrdS w pb (.slice A L.length c) L ⟨100, M, 0, id⟩ wz)) (fun iv _ => L.length - (intOf iv).toNat)
        case atStart => exact ⟨0, _, rfl, Nat.zero_le _, Lib.hid (MidQ.start L), HS1⟩
        case round =>
          clear hL hlt hli HS HS1
          obtain ⟨j, M, rfl, hj, HM, HS⟩ := hrel
          rename World => wz
          by_cases hjl : j < L.length
          · have hji : (j : Int) < (L.length : Int) := by omega
            go_upto_if 53 with fail
            go_cut [10] from 50 to 59 (fun s wx => ∃ ow : Nat, s = .int .u64 ow ∧ 1 ≤ ow ∧ ow ≤ 256 ∧ wx = wz)
            case first =>
              by_cases hjo : j < os.length
              · have hjoi : (j : Int) < (os.length : Int) := by omega
                obtain ⟨o, rfl, hc, hx⟩ := HC2.out _ hjo
                have k1 := hc wz HS.out.d.bel
                obtain ⟨x, hxx⟩ : ∃ x, x = os[j] := ⟨_, rfl⟩
                rw [← hxx] at k1 hx
                clear hxx hc
                have hi0 : IntKind.u64.wrap (x : Int) = (x : Int) := by rw [IntKind.wrap_u64]; omega
                have hi1 : IntKind.u64.wrap (1 + (x : Int)) = ((1 + x : Nat) : Int) := by rw [IntKind.wrap_u64]; omega
                go_wp2_with fail
                go_meet
                case rel => exact ⟨1 + x, by simp, by omega, by omega, rfl⟩
              · have hjoi : ¬ (j : Int) < (os.length : Int) := by omega
                go_wp2_with fail
                go_meet
                case rel => exact ⟨1, rfl, by omega, by omega, rfl⟩
            case rest =>
              rename World => wq
              obtain ⟨ow, rfl, ho1, ho2, rfl⟩ := hcut
              obtain ⟨hnx, hM2⟩ := HM.out.next (lim := 100) (kept := 0) (last := id) hjl (ow := ow) (by omega)
              have hlm := hM2.leng
              have HNX := Lib.hid (HS.out.d.next (by show M.length ≤ _; have := HM.out.leng; omega) ow (by omega))
              rw [hnx] at HNX
              have hok2 : (⟨100, M.set j (L[j], ow), 0, id⟩ : QP).ok := by have := HS.out.d.ok.next (ow := ow) (by omega); rw [hnx] at this; exact this
              have hown : (⟨100, M.set j (L[j], ow), 0, id⟩ : QP).owner L[j] = (ow, 0) := by
                have hjm : j < (M.set j (L[j], ow)).length := by omega
                have := owner_at (q := ⟨100, M.set j (L[j], ow), 0, id⟩) hok2 (i := j) hjm
                have he : (M.set j (L[j], ow))[j] = (L[j], ow) := by rw [List.getElem_set_self]
                rw [show (⟨100, M.set j (L[j], ow), 0, id⟩ : QP).l[j] = (L[j], ow) from he] at this
                exact this
              have hid64 : L[j] < 18446744073709551616 := by
                have hjm : j < (M.set j (L[j], ow)).length := by omega
                have := (hok2.ms _ (List.getElem_mem hjm)).1
                rw [hM2.fst hjl hjm] at this
                exact this
              have hrd := hM2.ready (by omega)
              have HM2 := Lib.hid hM2
              generalize M.set j (L[j], ow) = M2 at *
              have HOWN := Lib.hid hown
              have HRD := Lib.hid hrd
              have HLM := Lib.hid hlm
              clear hnx hM2 hok2 hown hrd hlm
              have HKEEP := Lib.hid (fun w' (hd : UnX w pb ⟨100, M2, 0, id⟩ (fun k => (Value.slice A L.length c).ownBlock = some k) w') (hk : KeptX (fun k => (Value.slice A L.length c).ownBlock = some k) _ w') => HS.out.keep hd hk)
              clear HS HM HC2
              go_wp2_with fail
              refine HNX.out.mono ?_
              rintro e w5 ⟨rfl, hd5, hk5⟩
              have HS5 := Lib.hid (HKEEP.out _ hd5 hk5)
              clear hd5 hk5 HKEEP HNX
              obtain ⟨n, hn⟩ : ∃ n, n = L[j] := ⟨_, rfl⟩
              rw [← hn] at HOWN hid64
              have HN := Lib.hid hn
              simp only [← hn]
              clear hn
              have HOW := Lib.hid (HS5.out.d.owner (by show M2.length ≤ _; have := HLM.out; omega) n hid64)
              rw [HOWN.out] at HOW
              go_wp2_with fail
              refine HOW.out.mono ?_
              rintro e w6 ⟨rfl, hd6, hk6⟩
              have HS6 := Lib.hid (HS5.out.keep hd6 hk6)
              clear hd6 hk6 HOW HS5
              obtain ⟨b, rfl, hbb, hbz, hfz, hcl⟩ := HS6.out.o.at_ (by omega)
              have k1 : w6.cell? ⟨b, j, none⟩ = some (.int .u64 n) := by
                have := hcl j hjl 0 (by decide)
                simp only [natC, Nat.mul_one, Nat.add_zero] at this
                rw [HN.out]
                exact this
              have HRE := Lib.hid (HS6.out.d.ready (by show M2.length ≤ _; have := HLM.out; omega))
              rw [show (ofQ 0 (⟨100, M2, 0, id⟩ : QP).l).length = L.length - (j + 1) from HRD.out] at HRE
              have s1 : IntKind.i64.wrap ((L.length : Int) - (j : Int)) = (L.length : Int) - (j : Int) := i64_id _ (by omega) (by omega)
              have s2 : IntKind.i64.wrap ((L.length : Int) - (j : Int) - 1) = ((L.length - (j + 1) : Nat) : Int) := by rw [i64_id _ (by omega) (by omega)]; omega
              clear hcl hbb hbz hfz
              go_wp2_with (refine HRE.out.mono ?_; rintro e w7 ⟨rfl, hd7, hk7⟩; have HS7 := Lib.hid (HS6.out.keep hd7 hk7); clear hd7 hk7)
              go_roundw
              case rel => exact ⟨j + 1, M2, by go_num, by omega, HM2, HS7⟩
              case measure => simp [intOf]; omega
          · have hji : ¬ (j : Int) < (L.length : Int) := by omega
            obtain rfl : j = L.length := by omega
            have HNX := Lib.hid (HS.out.d.next (by show M.length ≤ _; have := HM.out.leng; omega) 1 (by omega))
            rw [HM.out.done] at HNX
            clear HM HC2
            go_wp2_with fail
            refine HNX.out.mono ?_
            rintro e w5 ⟨rfl, hd5, hk5⟩
            have HH5 := Lib.hid (HH.out _ hd5.bel)
            clear hd5 hk5 HNX HS
            go_wp2_with fail
            refine HH5.out.mono ?_
            rintro e w6 ⟨rfl, hb6⟩
            go_wp2_with fail
            go_ret
            exact ⟨rfl, hb6⟩

end Go.Proofs.Ytkcbkimconaegaa
