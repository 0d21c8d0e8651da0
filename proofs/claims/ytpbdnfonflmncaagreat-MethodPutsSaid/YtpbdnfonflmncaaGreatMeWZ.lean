/-
  The contract of the law's own head.
  Conditions: none.
-/
import Derived.Test.YtpbdnfonflmncaaGreatMeTZ
namespace Go.Proofs.YtpbdnfonflmncaaGreat
open Go.RowKit
set_option linter.unusedVariables false
set_option linter.unusedSimpArgs false

def aH1 : ArgP := { zA with is := true, s := ⟨#[113]⟩ }
def aH2 : ArgP := { zA with is := true }
def aH3 : ArgP := { zA with is := true, n := 9 }
theorem small_no {k : Nat} {a : ArgP} (h1 : isNum k → a.n < 256 ^ widD k) (h2 : isTxt k → a.s.size < 256 ^ widD k) (h3 : k ≠ 120) (h4 : k ≠ 114) (h5 : k ≠ 118) : fitA k a :=
  ⟨h1, h2, fun h => absurd h h3, fun h => absurd h h4, fun h => absurd h h5⟩
theorem valid_h : validM ⟨8, 1, false, [aH1, aH2, aH3]⟩ := by
  refine ⟨[115, 98, 100], by decide, ⟨⟨fun _ => rfl, ?_, ?_⟩, ⟨fun _ => rfl, ?_, ?_⟩, ⟨fun _ => rfl, ?_, ?_⟩, trivial⟩, fun h => by cases h⟩
  · exact small_no (by decide) (by decide) (by decide) (by decide) (by decide)
  · exact ⟨fun _ => rfl, fun h => absurd (by decide) h, fun _ => ⟨rfl, rfl, rfl⟩, fun _ => rfl, fun _ => rfl⟩
  · exact small_no (by decide) (by decide) (by decide) (by decide) (by decide)
  · exact ⟨fun _ => rfl, fun _ => rfl, fun _ => ⟨rfl, rfl, rfl⟩, fun _ => rfl, fun _ => rfl⟩
  · exact small_no (by decide) (by decide) (by decide) (by decide) (by decide)
  · exact ⟨fun h => absurd (by decide) h, fun _ => rfl, fun _ => ⟨rfl, rfl, rfl⟩, fun _ => rfl, fun _ => rfl⟩
theorem put_h : m_putM ⟨8, 1, false, [aH1, aH2, aH3]⟩ = [8, 1, 1, 0, 0, 7, 1, 113, 0, 0, 0, 9] := by decide
theorem find_h : m_findD 5 1 = some ⟨1, ⟨#[115, 101, 108, 101, 99, 116]⟩, ⟨#[]⟩⟩ := rfl
theorem m_h : mOf 5 1 [1, 1, 0, 0] (sb ⟨#[]⟩) = ⟨5, 1, true, []⟩ := rfl
theorem get_h : m_getM [5, 1, 1, 1, 0, 0] = some ⟨5, 1, true, []⟩ := by
  have h := @getM_some 5 1 [1, 1, 0, 0] _ find_h rfl (by rw [m_h]; exact ⟨[], by decide, trivial, fun _ => by decide⟩)
  rw [m_h] at h
  exact h
theorem get_none7 : m_getM [7, 1] = none ∧ errM [7, 1] = 80 := m_getM_none (x := 7) (y := 1) (r := []) (by decide)
theorem shows_h1 (w : World) : ShowsA w aH1 none 0 0 (.int .u8 (0 : Nat)) (.int .u64 (0 : Nat)) (.string ⟨#[]⟩) (.slice none 0 0) (.slice none 0 0) :=
  ⟨⟨by decide, by decide, fun s hs => (by cases hs), by decide, by decide, by decide, by decide⟩, ShowsG.nil_ _ _ _, shows_zT w⟩
theorem shows_h2 (w : World) : ShowsA w aH2 none 0 0 (.int .u8 (0 : Nat)) (.int .u64 (0 : Nat)) (.string ⟨#[]⟩) (.slice none 0 0) (.slice none 0 0) :=
  ⟨⟨by decide, by decide, fun s hs => (by cases hs), by decide, by decide, by decide, by decide⟩, ShowsG.nil_ _ _ _, shows_zT w⟩
theorem shows_h3 (w : World) : ShowsA w aH3 none 0 0 (.int .u8 (0 : Nat)) (.int .u64 (0 : Nat)) (.string ⟨#[]⟩) (.slice none 0 0) (.slice none 0 0) :=
  ⟨⟨by decide, by decide, fun s hs => (by cases hs), by decide, by decide, by decide, by decide⟩, ShowsG.nil_ _ _ _, shows_zT w⟩
theorem list_h (w : World) : ListA (w.alloc (Obj.cells #[.bool true, .int .u64 0, .string ⟨#[113]⟩, .int .u32 0, .string ⟨#[]⟩, .string ⟨#[]⟩, .slice none 0 0, .int .u8 0, .int .u64 0, .string ⟨#[]⟩, .slice none 0 0, .slice none 0 0,
    .bool true, .int .u64 0, .string ⟨#[]⟩, .int .u32 0, .string ⟨#[]⟩, .string ⟨#[]⟩, .slice none 0 0, .int .u8 0, .int .u64 0, .string ⟨#[]⟩, .slice none 0 0, .slice none 0 0,
    .bool true, .int .u64 9, .string ⟨#[]⟩, .int .u32 0, .string ⟨#[]⟩, .string ⟨#[]⟩, .slice none 0 0, .int .u8 0, .int .u64 0, .string ⟨#[]⟩, .slice none 0 0, .slice none 0 0] 52)) [aH1, aH2, aH3] (some ⟨w.heap.size, 0, none⟩) 3 := by
  have hh := heap_alloc_new w (Obj.cells #[.bool true, .int .u64 0, .string ⟨#[113]⟩, .int .u32 0, .string ⟨#[]⟩, .string ⟨#[]⟩, .slice none 0 0, .int .u8 0, .int .u64 0, .string ⟨#[]⟩, .slice none 0 0, .slice none 0 0,
    .bool true, .int .u64 0, .string ⟨#[]⟩, .int .u32 0, .string ⟨#[]⟩, .string ⟨#[]⟩, .slice none 0 0, .int .u8 0, .int .u64 0, .string ⟨#[]⟩, .slice none 0 0, .slice none 0 0,
    .bool true, .int .u64 9, .string ⟨#[]⟩, .int .u32 0, .string ⟨#[]⟩, .string ⟨#[]⟩, .slice none 0 0, .int .u8 0, .int .u64 0, .string ⟨#[]⟩, .slice none 0 0, .slice none 0 0] 52)
  refine ⟨by decide, by decide, by decide, fun j hj => ?_⟩
  match j, hj with
  | 0, _ => exact ⟨w.heap.size, 0, none, 0, 0, _, _, _, _, _, rfl, by simp, shows_h1 _, ⟨cell_of_row _ _ 0 _ 52 (0, 0) hh, cell_of_row _ _ 1 _ 52 (0, 0) hh, cell_of_row _ _ 2 _ 52 (0, 0) hh⟩, ⟨cell_of_row _ _ 3 _ 52 (0, 0) hh, cell_of_row _ _ 4 _ 52 (0, 0) hh, cell_of_row _ _ 5 _ 52 (0, 0) hh⟩, cell_of_row _ _ 6 _ 52 (0, 0) hh, cell_of_row _ _ 7 _ 52 (0, 0) hh, cell_of_row _ _ 8 _ 52 (0, 0) hh, cell_of_row _ _ 9 _ 52 (0, 0) hh, cell_of_row _ _ 10 _ 52 (0, 0) hh, cell_of_row _ _ 11 _ 52 (0, 0) hh⟩
  | 1, _ => exact ⟨w.heap.size, 0, none, 0, 0, _, _, _, _, _, rfl, by simp, shows_h2 _, ⟨cell_of_row _ _ 12 _ 52 (0, 0) hh, cell_of_row _ _ 13 _ 52 (0, 0) hh, cell_of_row _ _ 14 _ 52 (0, 0) hh⟩, ⟨cell_of_row _ _ 15 _ 52 (0, 0) hh, cell_of_row _ _ 16 _ 52 (0, 0) hh, cell_of_row _ _ 17 _ 52 (0, 0) hh⟩, cell_of_row _ _ 18 _ 52 (0, 0) hh, cell_of_row _ _ 19 _ 52 (0, 0) hh, cell_of_row _ _ 20 _ 52 (0, 0) hh, cell_of_row _ _ 21 _ 52 (0, 0) hh, cell_of_row _ _ 22 _ 52 (0, 0) hh, cell_of_row _ _ 23 _ 52 (0, 0) hh⟩
  | 2, _ => exact ⟨w.heap.size, 0, none, 0, 0, _, _, _, _, _, rfl, by simp, shows_h3 _, ⟨cell_of_row _ _ 24 _ 52 (0, 0) hh, cell_of_row _ _ 25 _ 52 (0, 0) hh, cell_of_row _ _ 26 _ 52 (0, 0) hh⟩, ⟨cell_of_row _ _ 27 _ 52 (0, 0) hh, cell_of_row _ _ 28 _ 52 (0, 0) hh, cell_of_row _ _ 29 _ 52 (0, 0) hh⟩, cell_of_row _ _ 30 _ 52 (0, 0) hh, cell_of_row _ _ 31 _ 52 (0, 0) hh, cell_of_row _ _ 32 _ 52 (0, 0) hh, cell_of_row _ _ 33 _ 52 (0, 0) hh, cell_of_row _ _ 34 _ 52 (0, 0) hh, cell_of_row _ _ 35 _ 52 (0, 0) hh⟩

set_option maxRecDepth 100000 in
set_option maxHeartbeats 4000000 in
theorem mhead_any (w : World) : Calls Tryz.prog 6 #[] w fun e w' => e = .returned (.bool true) ∧ Below w.heap.size w w' := by
  have HP : Hid (∀ w c A, ListA w [aH1, aH2, aH3] A c → Calls Tryz.prog 8 #[.agg #[.int .u8 8, .int .u8 1, .bool false, .slice A 3 c]] w fun e w' => ∃ v, e = .returned (.tuple #[v, .int .i64 0]) ∧ Own 5 w' w.heap.size v [8, 1, 1, 0, 0, 7, 1, 113, 0, 0, 0, 9] ∧ Below w.heap.size w w') := Lib.hid (fun w c A hl => by
    have h := mput_ok 8 1 false [aH1, aH2, aH3] A c w hl (fun a ha => by simp at ha; rcases ha with rfl | rfl | rfl <;> decide) valid_h
    rw [put_h] at h
    exact h)
  have HG : Hid (∀ w v d, Shows w d v [5, 1, 1, 1, 0, 0] → Calls Tryz.prog 12 #[v] w fun e w' => ∃ A c, e = .returned (.tuple #[.agg #[.int .u8 5, .int .u8 1, .bool true, .slice A 0 c], .int .i64 0]) ∧ Below w.heap.size w w') := Lib.hid (fun w v d h => by
    have hg := mget_some 5 1 [1, 1, 0, 0] v d w _ h find_h (by decide) (Lib.hid (fun b s' w' hR hl => args_nil b d s' w' hR (by simp at hl; omega))) (by rw [m_h]; intro a ha; cases ha)
    rw [get_h] at hg
    refine hg.mono ?_
    rintro e w' ⟨hb, ⟨h1, _⟩ | ⟨m, A, c, h1, h2, h3⟩⟩
    · cases h1
    · cases h1
      exact ⟨A, c, h2, hb⟩)
  have HN : Hid (∀ w v d, Shows w d v [7, 1] → Calls Tryz.prog 12 #[v] w fun e w' => e = .returned (.tuple #[.agg #[.int .u8 0, .int .u8 0, .bool false, .slice none 0 0], .int .i64 80]) ∧ Below w.heap.size w w') := Lib.hid (fun w v d h => by
    have hg := mget_none 7 1 [] v d w h (by decide)
    rw [get_none7.1, get_none7.2] at hg
    refine hg.mono ?_
    rintro e w' ⟨hb, ⟨h1, h2⟩ | ⟨m, A, c, h1, h2, h3⟩⟩
    · exact ⟨h2, hb⟩
    · cases h1)
  have HK : Hid (∀ w, Calls Tryz.prog 15 #[.int .u8 6, .int .u8 2] w fun e w' => e = .returned (.tuple #[.string ⟨#[120, 98, 98]⟩, .bool true]) ∧ Below w.heap.size w w') := Lib.hid (fun w => kinds_any 6 2 w)
  have HL := Lib.hid (list_h w)
  have hb0 := below_box w (Obj.cells #[.bool true, .int .u64 0, .string ⟨#[113]⟩, .int .u32 0, .string ⟨#[]⟩, .string ⟨#[]⟩, .slice none 0 0, .int .u8 0, .int .u64 0, .string ⟨#[]⟩, .slice none 0 0, .slice none 0 0,
    .bool true, .int .u64 0, .string ⟨#[]⟩, .int .u32 0, .string ⟨#[]⟩, .string ⟨#[]⟩, .slice none 0 0, .int .u8 0, .int .u64 0, .string ⟨#[]⟩, .slice none 0 0, .slice none 0 0,
    .bool true, .int .u64 9, .string ⟨#[]⟩, .int .u32 0, .string ⟨#[]⟩, .string ⟨#[]⟩, .slice none 0 0, .int .u8 0, .int .u64 0, .string ⟨#[]⟩, .slice none 0 0, .slice none 0 0] 52)
  go_enter Tryz.func6, Tryz.ntmps6
  go_upto_region 1 with fail
  go_wp2_with fail
  with_reducible refine (HP.out _ 3 _ HL.out).mono ?_
  rintro e w1 ⟨v1, rfl, ho1, hb1⟩
  have hB1 : Below w.heap.size w w1 := hb0.trans (hb1.mono hb0.size)
  obtain ⟨g1, hg1, hs1⟩ := ho1.shows
  have hg1lt : g1 < w1.heap.size := hs1.lt (by simp)
  have HS1 := Lib.hid hs1
  clear hb0 hb1 ho1 hs1 HL HP
  have hl2 := Shows.lit (w := w1) (e := 5) (cs := #[.int .u8 5, .int .u8 1, .int .u8 1, .int .u8 1, .int .u8 0, .int .u8 0]) [5, 1, 1, 1, 0, 0] rfl (by simp [maxLen])
  have hb2 := below_box w1 (Obj.cells #[.int .u8 5, .int .u8 1, .int .u8 1, .int .u8 1, .int .u8 0, .int .u8 0] 5)
  have HG2 := Lib.hid (HG.out _ _ _ hl2)
  simp only [List.length_cons, List.length_nil, Nat.zero_add, Nat.reduceAdd] at HG2
  clear hl2
  go_upto_region 2 with fail
  go_wp2_with fail
  with_reducible refine HG2.out.mono ?_
  rintro e w2 ⟨A2, c2, rfl, hbb2⟩
  have hB2 : Below w1.heap.size w1 w2 := hb2.trans (hbb2.mono hb2.size)
  clear hbb2 hb2 HG2
  go_upto_region 3 with fail
  have hm3 := BoxM.new w2 5 1 true (.slice A2 0 c2)
  have hb3 := below_box w2 (Obj.cells #[.int .u8 5, .int .u8 1, .bool true, .slice A2 0 c2] 24)
  have hm3 : BoxM (w2.alloc (Obj.cells #[.int .u8 5, .int .u8 1, .bool true, .slice A2 0 c2] 24)) w2.heap.size 5 1 true (.slice A2 0 c2) := hm3
  generalize w2.alloc (Obj.cells #[.int .u8 5, .int .u8 1, .bool true, .slice A2 0 c2] 24) = w3 at *
  have hB3 : Below w1.heap.size w1 w3 := hB2.trans (hb3.mono hB2.size)
  clear hb3 hB2
  have hl4 := Shows.lit (w := w3) (e := 5) (cs := #[.int .u8 7, .int .u8 1]) [7, 1] rfl (by simp [maxLen])
  have hb4 := below_box w3 (Obj.cells #[.int .u8 7, .int .u8 1] 5)
  have HN4 := Lib.hid (HN.out _ _ _ hl4)
  simp only [List.length_cons, List.length_nil, Nat.zero_add, Nat.reduceAdd] at HN4
  clear hl4
  go_wp2_with fail
  with_reducible refine HN4.out.mono ?_
  rintro e w4 ⟨rfl, hbb4⟩
  have hb5 : Below w3.heap.size w3 w4 := hb4.trans (hbb4.mono hb4.size)
  clear hb4 hbb4 HN4
  go_upto_region 4 with fail
  have hb6 : Below w3.heap.size w3 (w4.alloc (Obj.cells #[.int .u8 0, .int .u8 0, .bool false, .slice none 0 0] 24)) := hb5.alloc hb5.size _
  generalize w4.alloc (Obj.cells #[.int .u8 0, .int .u8 0, .bool false, .slice none 0 0] 24) = w6 at *
  go_wp2_with fail
  with_reducible refine (HK.out w6).mono ?_
  rintro e w7 ⟨rfl, hb7⟩
  have hb8 : Below w3.heap.size w3 w7 := hb6.trans (hb7.mono hb6.size)
  have hm7 := hm3.kept hb8 (Nat.le_refl _)
  have hB7 : Below w1.heap.size w1 w7 := hB3.trans (hb8.mono hB3.size)
  have hB : Below w.heap.size w w7 := hB1.trans (hB7.mono hB1.size)
  have hcv := conv_at (HS1.out.below hB7 hg1lt)
  have hst : str8 [8, 1, 1, 0, 0, 7, 1, 113, 0, 0, 0, 9] = ⟨#[8, 1, 1, 0, 0, 7, 1, 113, 0, 0, 0, 9]⟩ := rfl
  rw [hst] at hcv
  have p0 := hm7.c0
  have p2 := hm7.c2
  clear hb8 hm7 hB7 hb7 hb6 hb5 hB3 hm3 hB1 HG HN HK HS1 hst
  go_upto_region 5 with fail
  go_wp2_with fail
  go_ret
  exact ⟨rfl, hB⟩

end Go.Proofs.YtpbdnfonflmncaaGreat
