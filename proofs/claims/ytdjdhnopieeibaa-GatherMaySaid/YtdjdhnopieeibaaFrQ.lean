/-
  The contracts of the law's own head and bytes.
  Conditions: none but sizes.
-/
import Derived.Test.YtdjdhnopieeibaaFrL
import Derived.Test.YtdjdhnopieeibaaFrI
namespace Go.Proofs.Ytdjdhnopieeibaa
open Go.RowKit
set_option linter.unusedVariables false
set_option linter.unusedSimpArgs false

def fH : Fr := ⟨true, true, true, true, 0, 0, 1, ⟨#[97, 98]⟩⟩
theorem fH_ok : fH.ok := ⟨by decide, by decide, by decide, by decide⟩
theorem enc_fH : encF fH = [15, 0, 0, 14, 0, 0, 0, 1, 0, 0, 0, 0, 97, 98] := by decide
theorem fH_may : fH.may := ⟨fH_ok, by decide⟩
theorem scan_fH : scanD [15, 0, 0, 14, 0, 0, 0, 1, 0, 0, 0, 0, 97, 98, 15, 0] = ([fH], 14) ∧ errD [15, 0, 0, 14, 0, 0, 0, 1, 0, 0, 0, 0, 97, 98, 15, 0] = 0 := by
  have h := scan_back [fH] (fun f hf => by simp at hf; subst hf; exact fH_may) fH fH_may 2 (by decide)
  have e : encL [fH] ++ (encF fH).take 2 = [15, 0, 0, 14, 0, 0, 0, 1, 0, 0, 0, 0, 97, 98, 15, 0] := by decide
  rw [e] at h
  exact h
theorem scan_16 : scanD [16] = ([], 0) ∧ errD [16] = 60 := by decide

set_option maxRecDepth 100000 in
set_option maxHeartbeats 2000000 in
theorem fhead_any (w : World) : Calls Try.prog 15 #[] w fun e w' => e = .returned (.bool true) ∧ Below w.heap.size w w' := by
  have HP : Hid (∀ w, Calls Try.prog 17 #[.agg #[.bool true, .bool true, .bool true, .bool true, .int .u8 0, .int .u8 0, .int .u16 1, .string ⟨#[97, 98]⟩]] w fun e w' => ∃ v, e = .returned (.tuple #[v, .int .i64 0]) ∧ Own 5 w' w.heap.size v [15, 0, 0, 14, 0, 0, 0, 1, 0, 0, 0, 0, 97, 98] ∧ Below w.heap.size w w') := Lib.hid (fun w => by
    have h := fput_ok fH w fH_ok fH_may.2
    rw [enc_fH] at h
    exact h)
  have HSC := Lib.hid (fun A c d l w h hl => scan_any A c d l w h hl)
  have S1 := Lib.hid scan_fH
  have S2 := Lib.hid scan_16
  go_enter Try.func15, Try.ntmps15
  go_wp2_with fail
  refine (HP.out _).mono ?_
  rintro e w1 ⟨v1, rfl, ho1, hb1⟩
  obtain ⟨g1, hg1, hs1⟩ := ho1.shows
  have HS1 := Lib.hid hs1
  have HB1 := Lib.hid hb1
  go_upto_region 2 with fail
  go_wp2_with (first
    | (at_builtin
       refine wpList_append8 _ rfl (.const (.slice none 0 0)) (.tmp 15) 22 rfl w1.heap.size 5 Try.underlying22 info5 (.slice none 0 0) [] rfl (Own.nil_ _ _ _) g1 v1 _ rfl HS1.out (by simp) (Nat.le_refl _) ?_
       intro v2 w2 ho2 hg2
       rw [List.nil_append] at ho2
       have hb2 : Below w1.heap.size w1 w2 := (Below.refl _ _).grown hg2 (Nat.le_refl _) (by simp [Value.ownBlock])
       have hz2 := hb2.size
       have ho2a := ho2.alloc_ (Obj.cells #[.int .u8 15, .int .u8 0] 5)
       have hl2 := Shows.lit (w := w2) (e := 5) (cs := #[.int .u8 15, .int .u8 0]) [15, 0] rfl (by simp [maxLen])
       have hbA : Below w2.heap.size w2 (w2.alloc (Obj.cells #[.int .u8 15, .int .u8 0] 5)) := below_box _ _)
    | (at_builtin
       refine wpList_append8 _ rfl (.tmp 16) (.tmp 17) 22 rfl w1.heap.size 5 Try.underlying22 info5 v2 _ rfl ho2a _ _ _ rfl hl2 (by simp) (by simp; omega) ?_
       intro v3 w3 ho3 hg3
       have hb3 : Below w1.heap.size w1 w3 := (hb2.trans (hbA.mono hb2.size)).grown hg3 (by have := hbA.size; omega) (fun k hk => (ho2.block k hk).1)
       obtain ⟨g3, _, hs3⟩ := ho3.shows
       obtain ⟨A3, c3, hv3, _, _⟩ := ho3.form
       subst hv3
       have HC3 := Lib.hid (HSC.out A3 c3 g3 _ w3 hs3 (by decide))))
  refine HC3.out.mono ?_
  rintro e w4 ⟨v4, rfl, ho4, hb4⟩
  have hq1 := S1.out.1
  have hq2 := S1.out.2
  simp only [List.cons_append, List.nil_append] at ho4 ⊢
  rw [hq1, hq2]
  rw [hq1] at ho4
  simp only [] at ho4 ⊢
  have hz3 := hb3.size
  have HB4 := Lib.hid (HB1.out.trans ((hb3.trans (hb4.mono hz3)).mono HB1.out.size))
  obtain ⟨g4, _, hs4⟩ := ho4.shows
  have HS4 := Lib.hid hs4
  have HS14 := Lib.hid (HS1.out.keep (hb3.trans (hb4.mono hz3)).size (fun hp => (hb3.trans (hb4.mono hz3)).block g1 (HS1.out.lt hp)))
  have hl5 := Shows.lit (w := w4) (e := 5) (cs := #[.int .u8 16]) [16] rfl (by simp [maxLen])
  have HC5 := Lib.hid (HSC.out (some ⟨w4.heap.size, 0, none⟩) 1 w4.heap.size [16] _ hl5 (by decide))
  have hbA5 : Below w4.heap.size w4 (w4.alloc (Obj.cells #[.int .u8 16] 5)) := below_box _ _
  clear hq1 hq2 ho4 hs4 hb4 hb3 hb2 hbA hl2 ho2a ho2 hg2 ho3 hg3 hs3 HC3 hs1 ho1 hb1 hl5
  go_wp2_with fail
  refine HC5.out.mono ?_
  rintro e w5 ⟨v5, rfl, ho5, hb5⟩
  have hb45 := hbA5.trans (hb5.mono hbA5.size)
  have HB5 := Lib.hid (HB4.out.trans (hb45.mono HB4.out.size))
  have e1 := S2.out.1
  have e2 := S2.out.2
  rw [e1, e2]
  have hs14 : Shows w5 g1 v1 _ := HS14.out.keep hb45.size (fun hp => hb45.block g1 (HS14.out.lt hp))
  have hs4 : ShowsG frC w5 g4 v4 [fH] := HS4.out.keep hb45.size (fun hp => hb45.block g4 (HS4.out.lt hp))
  obtain ⟨A1, c1, rfl, _, _, hc1⟩ := hs14
  obtain ⟨A4, c4, rfl, _, _, hc4⟩ := hs4
  obtain ⟨o1, rfl, _, hc1⟩ := hc1 (by decide)
  obtain ⟨o4, rfl, _, hc4⟩ := hc4 (by decide)
  have k1 : w5.cell? ⟨g1, o1, none⟩ = some (.int .u8 15) := hc1 0 (by decide)
  have k4 : w5.cell? ⟨g4, o4 + 7, none⟩ = some (.string ⟨#[97, 98]⟩) := hc4 0 (by decide) 7 (by decide)
  clear hc1 hc4 e1 e2 ho5 hb5 hb45 hbA5
  go_wp2_with fail
  go_ret
  exact ⟨rfl, HB5.out⟩

end Go.Proofs.Ytdjdhnopieeibaa
