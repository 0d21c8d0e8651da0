/-
  The contracts of strings.Cut at a dot, and of method.Named.
  Conditions: none but sizes.
-/
import Derived.Lib.Bytealg
import Derived.OwnWalk
import Derived.Lib.SlicesS
import Derived.Shelf.Strings.Search1
import Derived.Test.YthpiicdkihglpaaMeZ0Z
namespace Go.Proofs.Ythpiicdkihglpaa
open Go.Proofs Go.Shelf Go.RowKit Go.Lib
set_option linter.unusedVariables false
set_option linter.unusedSimpArgs false

set_option maxRecDepth 100000 in
theorem indexByte_any (s : ByteArray) (w : World) : Calls Try.prog 143 #[.string s, .int .u8 46] w fun e w' => e = .returned (.int .i64 (dotD s)) ∧ w' = w := by
  go_enter Try.func143, Try.ntmps143
  go_wp2
  rw [run_callFunc_extern Try.func151 (by kernel_rfl) (by kernel_rfl) (by kernel_rfl) (e := Extern.BytealgIndexByte.indexByte) (by kernel_rfl), Lib.run_indexByteString]
  simp only [Result.andThen]
  rw [Oper.upon_value]
  go_wp2
  go_ret
  exact ⟨rfl, rfl⟩

theorem dot_one : dotD ⟨#[46]⟩ = 0 := by decide
set_option maxRecDepth 100000 in
set_option maxHeartbeats 2000000 in
theorem index_any (s : ByteArray) (w : World) : Calls Try.prog 128 #[.string s, .string ⟨#[46]⟩] w fun e w' => e = .returned (.int .i64 (dotD s)) ∧ w' = w := by
  have HI := Lib.hid (indexByte_any s w)
  have hz : (⟨#[46]⟩ : ByteArray).size = 1 := rfl
  by_cases h : s = ⟨#[46]⟩
  · subst h
    rw [dot_one]
    go_enter Try.func128, Try.ntmps128
    go_wp2_with fail
    go_ret
    exact ⟨rfl, rfl⟩
  · have hne : ((⟨#[46]⟩ : ByteArray).toList == s.toList) = false := (Lib.bytes_beq_false_iff _ _).2 fun e => h e.symm
    have e46 : (⟨#[46]⟩ : ByteArray).toList = [46] := by rw [ByteArray.toList_eq]
    rw [e46] at hne
    clear h e46
    go_enter Try.func128, Try.ntmps128
    go_wp2_with fail
    refine HI.out.mono ?_
    rintro e w1 ⟨rfl, rfl⟩
    go_wp2_with fail
    go_ret
    exact ⟨rfl, rfl⟩

/-- What Cut tells at a dot. -/
def cutA (s : ByteArray) : ByteArray := if dotD s < 0 then s else s.extract 0 (dotD s).toNat
def cutB (s : ByteArray) : ByteArray := if dotD s < 0 then ⟨#[]⟩ else s.extract ((dotD s).toNat + 1) s.size
theorem dot_lt (s : ByteArray) : -1 ≤ dotD s ∧ dotD s < s.size := by
  refine ⟨Lib.indexByte_ge _ _, ?_⟩
  rcases Int.lt_or_le (dotD s) 0 with h | h
  · omega
  · obtain ⟨o, ho⟩ := Int.eq_ofNat_of_zero_le h
    obtain ⟨h1, _⟩ := Lib.indexByte_some ho
    obtain ⟨h2, _⟩ := List.getElem?_eq_some_iff.1 h1
    have : s.data.toList.length = s.size := by simp
    omega
set_option maxRecDepth 100000 in
set_option maxHeartbeats 2000000 in
theorem cut_any (s : ByteArray) (w : World) (hs : s.size ≤ 140737488351232) : Calls Try.prog 60 #[.string s, .string ⟨#[46]⟩] w fun e w' => ∃ n, e = .returned (.tuple #[.string (cutA s), .string (cutB s), .bool (decide (0 ≤ dotD s))]) ∧ w' = w.drewN n := by
  have HC : Hid (∀ w, Calls Try.prog 99 #[.string s, .string ⟨#[46]⟩] w fun e w' => ∃ n, e = .returned (.tuple #[.string (cutA s), .string (cutB s), .bool (decide (0 ≤ dotD s))]) ∧ w' = w.drewN n) := by
    refine Lib.hid fun w => ?_
    have HI := Lib.hid (index_any s w)
    have hz : (⟨#[46]⟩ : ByteArray).size = 1 := rfl
    obtain ⟨hge, hlt⟩ := dot_lt s
    unfold cutA cutB
    rcases Int.lt_or_le (dotD s) 0 with h | h
    · rw [if_pos h, if_pos h, decide_eq_false (by omega)]
      have t1 : decide (0 ≤ dotD s) = false := decide_eq_false (by omega)
      generalize dotD s = i at *
      clear h hge hlt
      go_enter Try.func99, Try.ntmps99
      go_wp2_with fail
      with_reducible refine HI.out.mono ?_
      rintro e w1 ⟨rfl, rfl⟩
      go_wp2_with fail
      go_ret3
      exact ⟨0, rfl, rfl⟩
    · rw [if_neg (by omega), if_neg (by omega), decide_eq_true h]
      have t1 : decide (0 ≤ dotD s) = true := decide_eq_true h
      obtain ⟨o, ho⟩ := Int.eq_ofNat_of_zero_le h
      rw [ho] at HI hlt ⊢
      rw [ho] at t1
      have q1 : (o : Int) ≤ (s.size : Int) := by omega
      have q2 : (0 : Int) ≤ (o : Int) + 1 := by omega
      have q3 : (o : Int) + 1 ≤ (s.size : Int) := by omega
      clear h hge ho
      go_enter Try.func99, Try.ntmps99
      go_wp2_with fail
      with_reducible refine HI.out.mono ?_
      rintro e w1 ⟨rfl, rfl⟩
      go_wp2_with fail
      go_quiet (fail)
      simp only [Exit.inBlock, Exit.then, Exit.noGoto]
      go_wp2_with fail
      go_ret3
      exact ⟨_, rfl, rfl⟩
  go_enter Try.func60, Try.ntmps60
  go_wp2_with fail
  with_reducible refine (HC.out w).mono ?_
  rintro e w1 ⟨n, rfl, rfl⟩
  go_wp2_with fail
  go_ret3
  exact ⟨n, rfl, rfl⟩

theorem below_drewN' (w : World) (n : Nat) : Below w.heap.size w (w.drewN n) := below_drewN (Below.refl _ _) n
/-- What Named tells. -/
def nmD (s : ByteArray) : Option RowT := tabD.find? (fun x => x.name == s)
theorem cut_iff {cl : Nat} (h : cl < 9) {sh : Shape} (hs : sh ∈ shapesD cl) (s : ByteArray) : nameD cl sh = s ↔ wordD cl = cutA s ∧ sh.word = cutB s := by
  unfold cutA cutB
  rcases Int.lt_or_le (dotD s) 0 with hd | hd
  · rw [if_pos hd, if_pos hd]
    have := (dot_lt s).1
    constructor
    · intro e
      exact absurd e (name_none h (by omega))
    · rintro ⟨_, e⟩
      exact absurd e (word_ne h hs)
  · obtain ⟨o, ho⟩ := Int.eq_ofNat_of_zero_le hd
    rw [if_neg (by omega), if_neg (by omega), ho]
    exact name_cut h ho

set_option maxRecDepth 100000 in
set_option maxHeartbeats 4000000 in
theorem named_any (s : ByteArray) (w : World) (hs : s.size ≤ 140737488351232) : Calls Try.prog 30 #[.string s] w fun e w' =>
    e = .returned (.tuple #[.int .u8 ((nmD s).getD ⟨0, 0, ⟨#[]⟩, ⟨#[]⟩⟩).cl, .int .u8 ((nmD s).getD ⟨0, 0, ⟨#[]⟩, ⟨#[]⟩⟩).co, .bool (nmD s).isSome]) ∧ Below w.heap.size w w' := by
  obtain ⟨O, hO⟩ : ∃ O, O = nmD s := ⟨_, rfl⟩
  rw [← hO]
  have hhit : ∀ cl, cl < 9 → ∀ sh ∈ shapesD cl, wordD cl = cutA s → sh.word = cutB s → O = some (rowOf cl sh.co sh) := fun cl h sh hm h1 h2 => hO.trans (name_hit h hm ((cut_iff h hm s).2 ⟨h1, h2⟩))
  have hmiss : (∀ cl, cl < 9 → ∀ sh ∈ shapesD cl, ¬ (wordD cl = cutA s ∧ sh.word = cutB s)) → O = none := fun h => hO.trans (name_miss fun cl hc sh hm e => h cl hc sh hm ((cut_iff hc hm s).1 e))
  have HIT := Lib.hid hhit
  have HMI := Lib.hid hmiss
  have HC := Lib.hid (cut_any s w hs)
  have HW := Lib.hid word_any
  have HS := Lib.hid shapes_any
  clear hO hhit hmiss hs
  generalize cutA s = ca at *
  generalize cutB s = cb at *
  go_enter Try.func30, Try.ntmps30
  go_wp2_with fail
  with_reducible refine HC.out.mono ?_
  rintro e w1 ⟨n, rfl, rfl⟩
  have hB1 := below_drewN' w n
  generalize w.drewN n = w1 at *
  clear HC
  go_wp2_with fail
  go_loopw [17] (fun i wr => ∃ j : Nat, j ≤ 9 ∧ i = .int .u8 j ∧ Below w.heap.size w wr ∧ Hid (∀ cl, cl < j → ∀ sh ∈ shapesD cl, ¬ (wordD cl = ca ∧ sh.word = cb))) (fun i _ => 9 - (RowKit.intOf i).toNat)
  case atStart => exact ⟨0, by omega, rfl, hB1, Lib.hid fun _ h => absurd h (by omega)⟩
  case round =>
    obtain ⟨j, hj, rfl, hb, hlo⟩ := hrel
    rename World => wj
    clear hB1
    by_cases hlt : j < 9
    · have hjl : (j : Int) < 9 := by omega
      have hwr : IntKind.u8.wrap ((j : Int) + 1) = (j : Int) + 1 := by rw [IntKind.wrap_u8]; omega
      by_cases hwd : wordD j = ca
      · have hne : ((wordD j).toList == ca.toList) = true := by rw [hwd]; simp
        have hih : ∀ sh ∈ shapesD j, sh.word = cb → O = some (rowOf j sh.co sh) := fun sh hm h => HIT.out j hlt sh hm hwd h
        have hin : (∀ sh ∈ shapesD j, sh.word ≠ cb) → ∀ cl, cl < j + 1 → ∀ sh ∈ shapesD cl, ¬ (wordD cl = ca ∧ sh.word = cb) := fun h cl hc sh hm => by
          by_cases h2 : cl < j
          · exact hlo.out cl h2 sh hm
          · obtain rfl : cl = j := by omega
            exact fun h3 => h sh hm h3.2
        have HIH := Lib.hid hih
        have HIN := Lib.hid hin
        have hl10 := shapes_len j
        have HSJ := Lib.hid (HS.out j)
        clear hih hin hwd hlo
        go_wp2_with fail
        with_reducible refine (HW.out _ _).mono ?_
        rintro e w2 ⟨rfl, rfl⟩
        rename World => wj
        go_wp2_with fail
        with_reducible refine (HSJ.out _).mono ?_
        rintro e w3 ⟨v, rfl, ho, hb3⟩
        obtain ⟨g, hg0, hsh⟩ := ho.shows
        obtain ⟨A, c, rfl, _, _⟩ := hsh.form
        have hB3 : Below w.heap.size w w3 := hb.trans (hb3.mono hb.size)
        have HSH := Lib.hid hsh
        generalize shapesD j = L at *
        clear ho hb3 hsh hb HSJ
        go_wp2_with fail
        go_loopw [27] (fun i wr => ∃ k : Nat, k ≤ L.length ∧ i = .int .i64 k ∧ Below w3.heap.size w3 wr ∧ Hid (∀ q (h : q < L.length), q < k → L[q].word ≠ cb)) (fun i _ => L.length - (RowKit.intOf i).toNat)
        case atStart => exact ⟨0, by omega, rfl, Below.refl _ _, Lib.hid fun _ _ h => absurd h (by omega)⟩
        case round =>
          obtain ⟨k, hk, rfl, hbk, hlk⟩ := hrel
          rename World => wk
          have hBk : Below w.heap.size w wk := hB3.trans (hbk.mono hB3.size)
          by_cases hkl : k < L.length
          · have hkl' : (k : Int) < (L.length : Int) := by omega
            obtain ⟨o, rfl, hd, hcl⟩ := (HSH.out.below' hbk (Nat.le_refl _)).at_ (by omega)
            obtain ⟨e0, e1, e2⟩ := shape_cell hcl hkl
            have hyes : L[k].word = cb → O = some (rowOf j L[k].co L[k]) := HIH.out _ (List.getElem_mem hkl)
            have hnext : L[k].word ≠ cb → ∀ q (h : q < L.length), q < k + 1 → L[q].word ≠ cb := fun h q hq hqk => by
              by_cases h2 : q < k
              · exact hlk.out q hq h2
              · obtain rfl : q = k := by omega
                exact h
            have HY := Lib.hid hyes
            have HN := Lib.hid hnext
            clear hcl hyes hnext hlk
            generalize L[k] = sh at *
            obtain ⟨sc, sw, sk⟩ := sh
            simp only [] at *
            have hx : BoxS (wk.alloc (Obj.cells #[.int .u8 sc, .string sw, .string sk] 124)) wk.heap.size ⟨sc, sw, sk⟩ := heap_alloc_new wk _
            have hbx : Below w3.heap.size w3 (wk.alloc (Obj.cells #[.int .u8 sc, .string sw, .string sk] 124)) := hbk.alloc hbk.size _
            have hBx : Below w.heap.size w (wk.alloc (Obj.cells #[.int .u8 sc, .string sw, .string sk] 124)) := hBk.alloc hBk.size _
            have c0 := cell_of_row _ _ 0 _ 124 (0, 0) hx
            have c1 := cell_of_row _ _ 1 _ 124 (0, 0) hx
            go_upto_region 9 with fail
            generalize wk.alloc (Obj.cells #[.int .u8 sc, .string sw, .string sk] 124) = wx at *
            by_cases hw2 : sw = cb
            · have t2 : (sw.toList == cb.toList) = true := by rw [hw2]; simp
              obtain rfl := HY.out hw2
              clear HY HN hw2 HIN HIH HIT HMI
              go_wp2_with fail
              go_quiet (fail)
              simp only [Exit.inBlock, Exit.then, Exit.noGoto]
              go_wp2_with fail
              go_ret3
              exact ⟨rfl, below_drewN hBx _⟩
            · have t2 : (sw.toList == cb.toList) = false := (Lib.bytes_beq_false_iff sw cb).2 hw2
              have HN2 := Lib.hid (HN.out hw2)
              clear HY HN hw2
              go_wp2_with fail
              go_roundw
              case rel => exact ⟨k + 1, by omega, by go_num, hbx, HN2⟩
              case measure => simp [RowKit.intOf]; omega
          · have hkl' : ¬ (k : Int) < (L.length : Int) := by omega
            have HN := Lib.hid (HIN.out fun sh hm => by
              obtain ⟨q, hq, rfl⟩ := List.getElem_of_mem hm
              exact hlk.out q hq (by omega))
            clear hlk
            go_wp2_with fail
            go_roundw
            case rel => exact ⟨j + 1, by omega, by go_num, hBk, HN⟩
            case measure => simp [RowKit.intOf]; omega
      · have hne : ((wordD j).toList == ca.toList) = false := (Lib.bytes_beq_false_iff (wordD j) ca).2 hwd
        have hn : ∀ cl, cl < j + 1 → ∀ sh ∈ shapesD cl, ¬ (wordD cl = ca ∧ sh.word = cb) := fun cl hc sh hm => by
          by_cases h2 : cl < j
          · exact hlo.out cl h2 sh hm
          · obtain rfl : cl = j := by omega
            exact fun h => hwd h.1
        have HN := Lib.hid hn
        clear hn hwd hlo
        go_wp2_with fail
        with_reducible refine (HW.out _ _).mono ?_
        rintro e w2 ⟨rfl, rfl⟩
        go_wp2_with fail
        go_roundw
        case rel => exact ⟨j + 1, by omega, by go_num, hb, HN⟩
        case measure => simp [RowKit.intOf]; omega
    · have hjl : ¬ (j : Int) < 9 := by omega
      obtain rfl : O = none := HMI.out fun cl hc => hlo.out cl (by omega)
      clear hlo HIT HMI
      go_wp2_with fail
      go_ret3
      exact ⟨rfl, hb⟩

end Go.Proofs.Ythpiicdkihglpaa
