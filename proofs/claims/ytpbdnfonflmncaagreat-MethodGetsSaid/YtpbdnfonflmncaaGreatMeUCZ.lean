/-
  Texts, together: MeW, MeUC, MeVB.
  Conditions: none but sizes.
-/
import Derived.Test.YtpbdnfonflmncaaGreatMeTZ
import Derived.Deep.RegionHeld3
import Derived.Test.YtpbdnfonflmncaaGreatMeUBZ
set_option linter.unusedVariables false
set_option linter.unusedSimpArgs false
namespace Go.Proofs.YtpbdnfonflmncaaGreat
open Go.RowKit
def aH1 : ArgP := { zA with is := true, s := ⟨#[113]⟩ }
def aH2 : ArgP := { zA with is := true }
def aH3 : ArgP := { zA with is := true, n := 9 }
theorem small_no {k : Nat} {a : ArgP} (h1 : isNum k → a.n < 256 ^ widD k) (h2 : isTxt k → a.s.size < 256 ^ widD k) (h3 : k ≠ 120) (h4 : k ≠ 114) (h5 : k ≠ 118) : fitA k a :=
 ⟨h1, h2, fun h => absurd h h3, fun h => absurd h h4, fun h => absurd h h5⟩
theorem valid_h : validM ⟨8, 1, false, [aH1, aH2, aH3]⟩ := by
 refine ⟨[115, 98, 100], by decide, ⟨⟨fun _ => rfl, ?_, ?_⟩, ⟨fun _ => rfl, ?_, ?_⟩, ⟨fun _ => rfl, ?_, ?_⟩, trivial⟩, fun h => by cases h⟩
 ·exact small_no (by decide) (by decide) (by decide) (by decide) (by decide)
 ·exact ⟨fun _ => rfl, fun h => absurd (by decide) h, fun _ => ⟨rfl, rfl, rfl⟩, fun _ => rfl, fun _ => rfl⟩
 ·exact small_no (by decide) (by decide) (by decide) (by decide) (by decide)
 ·exact ⟨fun _ => rfl, fun _ => rfl, fun _ => ⟨rfl, rfl, rfl⟩, fun _ => rfl, fun _ => rfl⟩
 ·exact small_no (by decide) (by decide) (by decide) (by decide) (by decide)
 ·exact ⟨fun h => absurd (by decide) h, fun _ => rfl, fun _ => ⟨rfl, rfl, rfl⟩, fun _ => rfl, fun _ => rfl⟩
theorem put_h : m_putM ⟨8, 1, false, [aH1, aH2, aH3]⟩ = [8, 1, 1, 0, 0, 7, 1, 113, 0, 0, 0, 9] := by decide
theorem find_h : m_findD 5 1 = some ⟨1, ⟨#[115, 101, 108, 101, 99, 116]⟩, ⟨#[]⟩⟩ := rfl
theorem m_h : mOf 5 1 [1, 1, 0, 0] (sb ⟨#[]⟩) = ⟨5, 1, true, []⟩ := rfl
theorem get_h : m_getM [5, 1, 1, 1, 0, 0] = some ⟨5, 1, true, []⟩ := by
 have h := @getM_some 5 1 [1, 1, 0, 0] _ find_h rfl (by rw [m_h]; exact ⟨[], by decide, trivial, fun _ => by decide⟩)
 rw [m_h] at h
 exact h
theorem get_none7 : m_getM [7, 1] = none ∧ errM [7, 1] = 80 := m_getM_none (x := 7) (y := 1) (r := []) (by decide)
theorem shows_h1 (w : World) : ShowsA w aH1 none 0 0 (.int .u8 (0 : Nat)) (.int .u64 (0 : Nat)) (.string ⟨#[]⟩) (.slice none 0 0) (.slice none 0 0) :=
 ⟨⟨by decide, by decide, fun s hs => (by cases hs), by decide, by decide, by decide, by decide⟩, ShowsG.nil_ _ _ _, shows_zT w⟩
theorem shows_h2 (w : World) : ShowsA w aH2 none 0 0 (.int .u8 (0 : Nat)) (.int .u64 (0 : Nat)) (.string ⟨#[]⟩) (.slice none 0 0) (.slice none 0 0) :=
 ⟨⟨by decide, by decide, fun s hs => (by cases hs), by decide, by decide, by decide, by decide⟩, ShowsG.nil_ _ _ _, shows_zT w⟩
theorem shows_h3 (w : World) : ShowsA w aH3 none 0 0 (.int .u8 (0 : Nat)) (.int .u64 (0 : Nat)) (.string ⟨#[]⟩) (.slice none 0 0) (.slice none 0 0) :=
 ⟨⟨by decide, by decide, fun s hs => (by cases hs), by decide, by decide, by decide, by decide⟩, ShowsG.nil_ _ _ _, shows_zT w⟩
theorem list_h (w : World) : ListA (w.alloc (Obj.cells #[.bool true, .int .u64 0, .string ⟨#[113]⟩, .int .u32 0, .string ⟨#[]⟩, .string ⟨#[]⟩, .slice none 0 0, .int .u8 0, .int .u64 0, .string ⟨#[]⟩, .slice none 0 0, .slice none 0 0,
  .bool true, .int .u64 0, .string ⟨#[]⟩, .int .u32 0, .string ⟨#[]⟩, .string ⟨#[]⟩, .slice none 0 0, .int .u8 0, .int .u64 0, .string ⟨#[]⟩, .slice none 0 0, .slice none 0 0,
  .bool true, .int .u64 9, .string ⟨#[]⟩, .int .u32 0, .string ⟨#[]⟩, .string ⟨#[]⟩, .slice none 0 0, .int .u8 0, .int .u64 0, .string ⟨#[]⟩, .slice none 0 0, .slice none 0 0] 52)) [aH1, aH2, aH3] (some ⟨w.heap.size, 0, none⟩) 3 := by
 have hh := heap_alloc_new w (Obj.cells #[.bool true, .int .u64 0, .string ⟨#[113]⟩, .int .u32 0, .string ⟨#[]⟩, .string ⟨#[]⟩, .slice none 0 0, .int .u8 0, .int .u64 0, .string ⟨#[]⟩, .slice none 0 0, .slice none 0 0,
  .bool true, .int .u64 0, .string ⟨#[]⟩, .int .u32 0, .string ⟨#[]⟩, .string ⟨#[]⟩, .slice none 0 0, .int .u8 0, .int .u64 0, .string ⟨#[]⟩, .slice none 0 0, .slice none 0 0,
  .bool true, .int .u64 9, .string ⟨#[]⟩, .int .u32 0, .string ⟨#[]⟩, .string ⟨#[]⟩, .slice none 0 0, .int .u8 0, .int .u64 0, .string ⟨#[]⟩, .slice none 0 0, .slice none 0 0] 52)
 refine ⟨by decide, by decide, by decide, fun j hj => ?_⟩
 match j, hj with
 | 0, _ => exact ⟨w.heap.size, 0, none, 0, 0, _, _, _, _, _, rfl, by simp, shows_h1 _, ⟨cell_of_row _ _ 0 _ 52 (0, 0) hh, cell_of_row _ _ 1 _ 52 (0, 0) hh, cell_of_row _ _ 2 _ 52 (0, 0) hh⟩, ⟨cell_of_row _ _ 3 _ 52 (0, 0) hh, cell_of_row _ _ 4 _ 52 (0, 0) hh, cell_of_row _ _ 5 _ 52 (0, 0) hh⟩, cell_of_row _ _ 6 _ 52 (0, 0) hh, cell_of_row _ _ 7 _ 52 (0, 0) hh, cell_of_row _ _ 8 _ 52 (0, 0) hh, cell_of_row _ _ 9 _ 52 (0, 0) hh, cell_of_row _ _ 10 _ 52 (0, 0) hh, cell_of_row _ _ 11 _ 52 (0, 0) hh⟩
 | 1, _ => exact ⟨w.heap.size, 0, none, 0, 0, _, _, _, _, _, rfl, by simp, shows_h2 _, ⟨cell_of_row _ _ 12 _ 52 (0, 0) hh, cell_of_row _ _ 13 _ 52 (0, 0) hh, cell_of_row _ _ 14 _ 52 (0, 0) hh⟩, ⟨cell_of_row _ _ 15 _ 52 (0, 0) hh, cell_of_row _ _ 16 _ 52 (0, 0) hh, cell_of_row _ _ 17 _ 52 (0, 0) hh⟩, cell_of_row _ _ 18 _ 52 (0, 0) hh, cell_of_row _ _ 19 _ 52 (0, 0) hh, cell_of_row _ _ 20 _ 52 (0, 0) hh, cell_of_row _ _ 21 _ 52 (0, 0) hh, cell_of_row _ _ 22 _ 52 (0, 0) hh, cell_of_row _ _ 23 _ 52 (0, 0) hh⟩
 | 2, _ => exact ⟨w.heap.size, 0, none, 0, 0, _, _, _, _, _, rfl, by simp, shows_h3 _, ⟨cell_of_row _ _ 24 _ 52 (0, 0) hh, cell_of_row _ _ 25 _ 52 (0, 0) hh, cell_of_row _ _ 26 _ 52 (0, 0) hh⟩, ⟨cell_of_row _ _ 27 _ 52 (0, 0) hh, cell_of_row _ _ 28 _ 52 (0, 0) hh, cell_of_row _ _ 29 _ 52 (0, 0) hh⟩, cell_of_row _ _ 30 _ 52 (0, 0) hh, cell_of_row _ _ 31 _ 52 (0, 0) hh, cell_of_row _ _ 32 _ 52 (0, 0) hh, cell_of_row _ _ 33 _ 52 (0, 0) hh, cell_of_row _ _ 34 _ 52 (0, 0) hh, cell_of_row _ _ 35 _ 52 (0, 0) hh⟩
set_option maxRecDepth 100000 in
set_option maxHeartbeats 4000000 in
theorem mhead_any (w : World) : Calls Tryz.prog 6 #[] w fun e w' => e = .returned (.bool true) ∧ Below w.heap.size w w' := by
 have HP : Hid (∀ w c A, ListA w [aH1, aH2, aH3] A c → Calls Tryz.prog 8 #[.agg #[.int .u8 8, .int .u8 1, .bool false, .slice A 3 c]] w fun e w' => ∃ v, e = .returned (.tuple #[v, .int .i64 0]) ∧ Own 5 w' w.heap.size v [8, 1, 1, 0, 0, 7, 1, 113, 0, 0, 0, 9] ∧ Below w.heap.size w w') := Lib.hid (fun w c A hl => by
  have h := mput_ok 8 1 false [aH1, aH2, aH3] A c w hl (fun a ha => by simp at ha; rcases ha with rfl | rfl | rfl <;> decide) valid_h
  rw [put_h] at h
  exact h)
 have HG : Hid (∀ w v d, Shows w d v [5, 1, 1, 1, 0, 0] → Calls Tryz.prog 12 #[v] w fun e w' => ∃ A c, e = .returned (.tuple #[.agg #[.int .u8 5, .int .u8 1, .bool true, .slice A 0 c], .int .i64 0]) ∧ Below w.heap.size w w') := Lib.hid (fun w v d h => by
  have hg := mget_some 5 1 [1, 1, 0, 0] v d w _ h find_h (by decide) (Lib.hid (fun b s' w' hR hl => args_nil b d s' w' hR (by simp at hl; omega))) (by rw [m_h]; intro a ha; cases ha)
  rw [get_h] at hg
  refine hg.mono ?_
  rintro e w' ⟨hb, ⟨h1, _⟩ | ⟨m, A, c, h1, h2, h3⟩⟩
  ·cases h1
  ·cases h1
   exact ⟨A, c, h2, hb⟩)
 have HN : Hid (∀ w v d, Shows w d v [7, 1] → Calls Tryz.prog 12 #[v] w fun e w' => e = .returned (.tuple #[.agg #[.int .u8 0, .int .u8 0, .bool false, .slice none 0 0], .int .i64 80]) ∧ Below w.heap.size w w') := Lib.hid (fun w v d h => by
  have hg := mget_none 7 1 [] v d w h (by decide)
  rw [get_none7.1, get_none7.2] at hg
  refine hg.mono ?_
  rintro e w' ⟨hb, ⟨h1, h2⟩ | ⟨m, A, c, h1, h2, h3⟩⟩
  ·exact ⟨h2, hb⟩
  ·cases h1)
 have HK : Hid (∀ w, Calls Tryz.prog 15 #[.int .u8 6, .int .u8 2] w fun e w' => e = .returned (.tuple #[.string ⟨#[120, 98, 98]⟩, .bool true]) ∧ Below w.heap.size w w') := Lib.hid (fun w => kinds_any 6 2 w)
 have HL := Lib.hid (list_h w)
 have hb0 := below_box w (Obj.cells #[.bool true, .int .u64 0, .string ⟨#[113]⟩, .int .u32 0, .string ⟨#[]⟩, .string ⟨#[]⟩, .slice none 0 0, .int .u8 0, .int .u64 0, .string ⟨#[]⟩, .slice none 0 0, .slice none 0 0,
  .bool true, .int .u64 0, .string ⟨#[]⟩, .int .u32 0, .string ⟨#[]⟩, .string ⟨#[]⟩, .slice none 0 0, .int .u8 0, .int .u64 0, .string ⟨#[]⟩, .slice none 0 0, .slice none 0 0,
  .bool true, .int .u64 9, .string ⟨#[]⟩, .int .u32 0, .string ⟨#[]⟩, .string ⟨#[]⟩, .slice none 0 0, .int .u8 0, .int .u64 0, .string ⟨#[]⟩, .slice none 0 0, .slice none 0 0] 52)
 go_enter Tryz.func6, Tryz.ntmps6
 go_upto_region 1 with fail
 go_wp2_with fail
 with_reducible refine (HP.out _ 3 _ HL.out).mono ?_
 rintro e w1 ⟨v1, rfl, ho1, hb1⟩
 have hB1 : Below w.heap.size w w1 := hb0.trans (hb1.mono hb0.size)
 obtain ⟨g1, hg1, hs1⟩ := ho1.shows
 have hg1lt : g1 < w1.heap.size := hs1.lt (by simp)
 have HS1 := Lib.hid hs1
 clear hb0 hb1 ho1 hs1 HL HP
 have hl2 := Shows.lit (w := w1) (e := 5) (cs := #[.int .u8 5, .int .u8 1, .int .u8 1, .int .u8 1, .int .u8 0, .int .u8 0]) [5, 1, 1, 1, 0, 0] rfl (by simp [maxLen])
 have hb2 := below_box w1 (Obj.cells #[.int .u8 5, .int .u8 1, .int .u8 1, .int .u8 1, .int .u8 0, .int .u8 0] 5)
 have HG2 := Lib.hid (HG.out _ _ _ hl2)
 simp only [List.length_cons, List.length_nil, Nat.zero_add, Nat.reduceAdd] at HG2
 clear hl2
 go_upto_region 2 with fail
 go_wp2_with fail
 with_reducible refine HG2.out.mono ?_
 rintro e w2 ⟨A2, c2, rfl, hbb2⟩
 have hB2 : Below w1.heap.size w1 w2 := hb2.trans (hbb2.mono hb2.size)
 clear hbb2 hb2 HG2
 go_upto_region 3 with fail
 have hm3 := BoxM.new w2 5 1 true (.slice A2 0 c2)
 have hb3 := below_box w2 (Obj.cells #[.int .u8 5, .int .u8 1, .bool true, .slice A2 0 c2] 24)
 have hm3 : BoxM (w2.alloc (Obj.cells #[.int .u8 5, .int .u8 1, .bool true, .slice A2 0 c2] 24)) w2.heap.size 5 1 true (.slice A2 0 c2) := hm3
 generalize w2.alloc (Obj.cells #[.int .u8 5, .int .u8 1, .bool true, .slice A2 0 c2] 24) = w3 at *
 have hB3 : Below w1.heap.size w1 w3 := hB2.trans (hb3.mono hB2.size)
 clear hb3 hB2
 have hl4 := Shows.lit (w := w3) (e := 5) (cs := #[.int .u8 7, .int .u8 1]) [7, 1] rfl (by simp [maxLen])
 have hb4 := below_box w3 (Obj.cells #[.int .u8 7, .int .u8 1] 5)
 have HN4 := Lib.hid (HN.out _ _ _ hl4)
 simp only [List.length_cons, List.length_nil, Nat.zero_add, Nat.reduceAdd] at HN4
 clear hl4
 go_wp2_with fail
 with_reducible refine HN4.out.mono ?_
 rintro e w4 ⟨rfl, hbb4⟩
 have hb5 : Below w3.heap.size w3 w4 := hb4.trans (hbb4.mono hb4.size)
 clear hb4 hbb4 HN4
 go_upto_region 4 with fail
 have hb6 : Below w3.heap.size w3 (w4.alloc (Obj.cells #[.int .u8 0, .int .u8 0, .bool false, .slice none 0 0] 24)) := hb5.alloc hb5.size _
 generalize w4.alloc (Obj.cells #[.int .u8 0, .int .u8 0, .bool false, .slice none 0 0] 24) = w6 at *
 go_wp2_with fail
 with_reducible refine (HK.out w6).mono ?_
 rintro e w7 ⟨rfl, hb7⟩
 have hb8 : Below w3.heap.size w3 w7 := hb6.trans (hb7.mono hb6.size)
 have hm7 := hm3.kept hb8 (Nat.le_refl _)
 have hB7 : Below w1.heap.size w1 w7 := hB3.trans (hb8.mono hB3.size)
 have hB : Below w.heap.size w w7 := hB1.trans (hB7.mono hB1.size)
 have hcv := conv_at (HS1.out.below hB7 hg1lt)
 have hst : str8 [8, 1, 1, 0, 0, 7, 1, 113, 0, 0, 0, 9] = ⟨#[8, 1, 1, 0, 0, 7, 1, 113, 0, 0, 0, 9]⟩ := rfl
 rw [hst] at hcv
 have p0 := hm7.c0
 have p2 := hm7.c2
 clear hb8 hm7 hB7 hb7 hb6 hb5 hB3 hm3 hB1 HG HN HK HS1 hst
 go_upto_region 5 with fail
 go_wp2_with fail
 go_ret
 exact ⟨rfl, hB⟩
theorem enter_dec (k : Nat) (hk : lett k) (args : Array Value) (w : World) : Sem.run Tryz.prog (callFunc (decF k) args) w = .ok (.enter (decF k) args) w := by
 rcases hk with rfl | (rfl | rfl | rfl) | (rfl | rfl) | rfl | rfl | rfl <;> kernel_rfl
theorem BoxG.all {w : World} {b : Nat} {a : ArgP} {qv v0 v1 v2 v3 v4 : Value} (h : BoxG w b a qv v0 v1 v2 v3 v4) : ((w.frozen? ⟨b, 0, none⟩ = false ∧ w.frozen? ⟨b, 1, none⟩ = false ∧ w.frozen? ⟨b, 2, none⟩ = false ∧ w.frozen? ⟨b, 3, none⟩ = false) ∧ (w.frozen? ⟨b, 4, none⟩ = false ∧ w.frozen? ⟨b, 5, none⟩ = false ∧ w.frozen? ⟨b, 6, none⟩ = false ∧ w.frozen? ⟨b, 7, none⟩ = false) ∧
  w.frozen? ⟨b, 8, none⟩ = false ∧ w.frozen? ⟨b, 9, none⟩ = false ∧ w.frozen? ⟨b, 10, none⟩ = false ∧ w.frozen? ⟨b, 11, none⟩ = false) :=
 ⟨⟨h.fr 0, h.fr 1, h.fr 2, h.fr 3⟩, ⟨h.fr 4, h.fr 5, h.fr 6, h.fr 7⟩, h.fr 8, h.fr 9, h.fr 10, h.fr 11⟩
theorem dec_new (wr w6 : World) {b d B : Nat} {S2 : St} {ra : ArgP} {A6 : Option Addr} {c6 dq6 k m : Nat} {xs : ByteArray} {xa : Option Addr} {xb xc : Nat} {xd : Option Addr} {xe xf : Nat} (hB : B = wr.heap.size) (hF : Frm2 b b wr w6) (hR : RM w6 b d S2)
  (hS : ShowsA (lowm B w6) ra A6 c6 dq6 (.int .u8 k) (.int .u64 m) (.string xs) (.slice xa xb xc) (.slice xd xe xf)) :
  ∃ (n : Nat) (A6' : Option Addr) (c6' dq6' xk xn : Nat) (xs' : ByteArray) (xa' : Option Addr) (xb' xc' : Nat) (xd' : Option Addr) (xe' xf' : Nat), Value.pointer (some ⟨w6.heap.size, 0, none⟩) = .pointer (some ⟨n, 0, none⟩) ∧ Hid (BoxG (w6.alloc (Obj.cells #[.bool ra.is, .int .u64 ra.n, .string ra.s, .int .u32 ra.f, .string ra.g, .string ra.h, .slice A6 ra.q.length c6, .int .u8 k, .int .u64 m, .string xs, .slice xa xb xc, .slice xd xe xf] 52)) n ra (.slice A6' ra.q.length c6') (.int .u8 xk) (.int .u64 xn) (.string xs') (.slice xa' xb' xc') (.slice xd' xe' xf')) ∧ wr.heap.size ≤ n ∧ Frm2 b b wr (w6.alloc (Obj.cells #[.bool ra.is, .int .u64 ra.n, .string ra.s, .int .u32 ra.f, .string ra.g, .string ra.h, .slice A6 ra.q.length c6, .int .u8 k, .int .u64 m, .string xs, .slice xa xb xc, .slice xd xe xf] 52)) ∧ RM (w6.alloc (Obj.cells #[.bool ra.is, .int .u64 ra.n, .string ra.s, .int .u32 ra.f, .string ra.g, .string ra.h, .slice A6 ra.q.length c6, .int .u8 k, .int .u64 m, .string xs, .slice xa xb xc, .slice xd xe xf] 52)) b d S2 ∧ Hid (ShowsA (pm (fun k => wr.heap.size ≤ k ∧ k ≠ n) (w6.alloc (Obj.cells #[.bool ra.is, .int .u64 ra.n, .string ra.s, .int .u32 ra.f, .string ra.g, .string ra.h, .slice A6 ra.q.length c6, .int .u8 k, .int .u64 m, .string xs, .slice xa xb xc, .slice xd xe xf] 52))) ra A6' c6' dq6' (.int .u8 xk) (.int .u64 xn) (.string xs') (.slice xa' xb' xc') (.slice xd' xe' xf')) :=
 ⟨w6.heap.size, A6, c6, dq6, k, m, xs, xa, xb, xc, xd, xe, xf, rfl, Lib.hid (BoxG.new w6 ra _ _ _ _ _ _), hF.size, hF.trans (Frm2.of_below (below_box w6 _)), hR.below (below_box w6 _), Lib.hid (hS.sub (low_pm (below_box w6 _).size fun k hk hkw => ⟨⟨hB ▸ hk, Nat.ne_of_lt hkw⟩, (below_box w6 _).block k hkw⟩))⟩
theorem dec_old (wr w6 : World) {b d B : Nat} {S2 : St} {ra za : ArgP} {zq z0 z1 z2 z3 z4 : Value} {A6 : Option Addr} {c6 dq6 k m : Nat} {xs : ByteArray} {xa : Option Addr} {xb xc : Nat} {xd : Option Addr} {xe xf : Nat} (hX : BoxG w6 wr.heap.size za zq z0 z1 z2 z3 z4) (hbw : b < wr.heap.size) (hB : wr.heap.size < B) (hF : Frm2 b b wr w6) (hR : RM w6 b d S2)
  (hS : ShowsA (lowm B w6) ra A6 c6 dq6 (.int .u8 k) (.int .u64 m) (.string xs) (.slice xa xb xc) (.slice xd xe xf)) :
  ∃ (n : Nat) (A6' : Option Addr) (c6' dq6' xk xn : Nat) (xs' : ByteArray) (xa' : Option Addr) (xb' xc' : Nat) (xd' : Option Addr) (xe' xf' : Nat), Value.pointer (some ⟨wr.heap.size, 0, none⟩) = .pointer (some ⟨n, 0, none⟩) ∧ Hid (BoxG (set12 w6 wr.heap.size ra (.slice A6 ra.q.length c6) (.int .u8 k) (.int .u64 m) (.string xs) (.slice xa xb xc) (.slice xd xe xf)) n ra (.slice A6' ra.q.length c6') (.int .u8 xk) (.int .u64 xn) (.string xs') (.slice xa' xb' xc') (.slice xd' xe' xf')) ∧ wr.heap.size ≤ n ∧ Frm2 b b wr (set12 w6 wr.heap.size ra (.slice A6 ra.q.length c6) (.int .u8 k) (.int .u64 m) (.string xs) (.slice xa xb xc) (.slice xd xe xf)) ∧ RM (set12 w6 wr.heap.size ra (.slice A6 ra.q.length c6) (.int .u8 k) (.int .u64 m) (.string xs) (.slice xa xb xc) (.slice xd xe xf)) b d S2 ∧ Hid (ShowsA (pm (fun k => wr.heap.size ≤ k ∧ k ≠ n) (set12 w6 wr.heap.size ra (.slice A6 ra.q.length c6) (.int .u8 k) (.int .u64 m) (.string xs) (.slice xa xb xc) (.slice xd xe xf))) ra A6' c6' dq6' (.int .u8 xk) (.int .u64 xn) (.string xs') (.slice xa' xb' xc') (.slice xd' xe' xf')) :=
 ⟨wr.heap.size, A6, c6, dq6, k, m, xs, xa, xb, xc, xd, xe, xf, rfl, Lib.hid (set12_box (a := ra) hX), Nat.le_refl _, set12_frm hF (Nat.le_refl _), hR.other (by rw [set12_size]; exact Nat.le_refl _) (fun k hk => set12_other k (by omega)), Lib.hid (hS.sub (low_pm (by rw [set12_size]; exact Nat.le_refl _) fun k hk hkw => ⟨⟨by omega, by omega⟩, set12_other k (by omega)⟩))⟩
theorem numS2_lt (s : St) : (numS 2 s).1 < 65536 := numS_below 2 s (by decide)
set_option maxRecDepth 100000 in
set_option maxHeartbeats 24000000 in
theorem args_any (b d : Nat) (sk : ByteArray) (s : St) (w : World) (h : RM w b d s) (hl : lenS s ≤ 140737488351232) (hk : ∀ k ∈ sb sk, lett k.toNat) (h3 : sk.size ≤ 3) :
  Calls Tryz.prog 29 #[.pointer (some ⟨b, 0, none⟩), .string sk] w (ArgsSaid b d (sb sk) s w) := by
 have hblt := h.lt
 have HD := Lib.hid (decoders_any w)
 have HN := Lib.hid (fun w' (hb : Below w.heap.size w w') => numV_any b d s 2 w' (h.below hb) hl (by decide) (by omega))
 have hn64 := numS2_lt s
 have hl1 : lenS (numS 2 s).2 ≤ 140737488351232 := Nat.le_trans (numS_lenS 2 s) hl
 obtain ⟨L, T, hLT, hT⟩ : ∃ (L : List ArgP) (T : St), argsS (sb sk) s = (L, T) ∧ (L, T) = ((argsR (sb sk) (numS 2 s).1 (numS 2 s).2).1, if (argsR (sb sk) (numS 2 s).1 (numS 2 s).2).2.1 = 0 then (argsR (sb sk) (numS 2 s).1 (numS 2 s).2).2.2 else none) := ⟨_, _, rfl, rfl⟩
 unfold ArgsSaid
 rw [hLT]
 simp only [Int.cast_ofNat_Int] at HN ⊢
 generalize (numS 2 s).2 = s1 at *
 generalize (numS 2 s).1 = n1 at *
 have HT := Lib.hid hT
 have HK := Lib.hid hk
 clear hl h hLT hT hk
 go_enter Tryz.func29, Tryz.ntmps29
 go_wp2_with fail
 with_reducible refine HD.out.mono ?_
 rintro e w1 ⟨p, rfl, hdm, hpw, hb1⟩
 go_wp2_with fail
 with_reducible refine (HN.out w1 hb1).mono ?_
 rintro e w2 ⟨V, rfl, hV, hR2, hF2⟩
 have hF : Frm2 b b w w2 := (Frm2.of_below hb1).trans hF2
 have hdm2 : DecMap w2 p := hdm.keep (hF2.block p hdm.lt (by omega) (by omega))
 go_upto_region 4 with fail
 clear HN HD hdm hF2 hb1 hV
 go_wp2_with fail
 go_loopw [5, 7, 16] (fun a f i wr => ∃ (j : Nat) (cs : List CellA) (Lj : List ArgP) (Fj : Nat) (Sj : St), j ≤ sk.size ∧ i = .int .i64 j ∧ f = .int .u64 Fj ∧ Hid (argsR ((sb sk).take j) n1 s1 = (Lj, Fj, Sj)) ∧ Fj < 65536 ∧ Lj.length = j ∧ lenS Sj ≤ 140737488351232 ∧
  OwnG cellAC 52 wr w.heap.size a cs ∧ Hid (RowA (pm (Free w.heap.size a (.slice none 0 0)) wr) cs Lj) ∧ RM wr b d Sj ∧ Frm2 b b w wr ∧ DecMap wr p ∧ a.ownBlock ≠ some p) (fun _ _ i _ => sk.size - (intOf i).toNat)
 case atStart => exact ⟨0, [], [], n1, s1, by omega, rfl, rfl, Lib.hid rfl, hn64, rfl, hl1, OwnG.nil_ _ _ _ _, Lib.hid (RowA.nil _), hR2, hF, hdm2, by simp [Value.ownBlock]⟩
 case round =>
  obtain ⟨j, cs, Lj, Fj, Sj, hj, rfl, rfl, hX, hF64, hLj, hlS, ho, hrow, hR, hFw, hdmw, hnp⟩ := hrel
  rename World => wr
  clear hR2 hF hdm2
  by_cases hlt : j < sk.size
  ·have hjs : (j : Int) < (sk.size : Int) := by omega
   have hkk : (sb sk)[j]'(by rw [sb_length]; exact hlt) = sk[j] := sb_get sk j hlt _
   have hlj : lett (sk[j].toNat) := by rw [← hkk]; exact HK.out _ (List.getElem_mem _)
   have HLK := Lib.hid (fun w' (hf : Frm2 b b wr w') => dec_look w' p sk[j].toNat (hdmw.keep (hf.block p hdmw.lt (by omega) (by omega))) hlj)
   have HWI := Lib.hid (width_any sk[j].toNat)
   have HDC := Lib.hid (fun w' (hr : RM w' b d Sj) => dec_any b d sk[j].toNat Sj w' hlj hr hlS)
   have hnext : argsR ((sb sk).take (j + 1)) n1 s1 = (Lj ++ [{ (readA sk[j].toNat Sj).1 with is := decide (Fj % 2 = 1) }], Fj / 2, (readA sk[j].toNat Sj).2) := by
    rw [List.take_succ_eq_append_getElem (by rw [sb_length]; exact hlt), argsR_snoc, hX.out, hkk]
   have HNX := Lib.hid hnext
   have HLE := Lib.hid (readA_lenS sk[j].toNat Sj)
   clear hX hnext hkk
   unfold DecSaid argV at HDC
   generalize (readA sk[j].toNat Sj).1 = ra at *
   generalize (readA sk[j].toNat Sj).2 = S2 at *
   obtain ⟨ri, rn, rs, rf, rg, rh, rq, rv⟩ := ra
   simp only [] at *
   have HFT := Lib.hid (fun w' w'' (h1 : Frm2 b b w' w'') (h2 : Frm2 b b wr w') => h2.trans h1)
   have hFd : Frm2 b b wr wr.drew := (Frm2.refl b b wr).drew
   have hRd : RM wr.drew b d Sj := hR
   have hbA : Below wr.heap.size wr (wr.alloc (Obj.cells #[.bool false, .int .u64 0, .string ⟨#[]⟩, .int .u32 0, .string ⟨#[]⟩, .string ⟨#[]⟩, .slice none 0 0, .int .u8 0, .int .u64 0, .string ⟨#[]⟩, .slice none 0 0, .slice none 0 0] 52)).drew := below_drew1 ((Below.refl _ _).alloc (Nat.le_refl _) _)
   have hFA : Frm2 b b wr (wr.alloc (Obj.cells #[.bool false, .int .u64 0, .string ⟨#[]⟩, .int .u32 0, .string ⟨#[]⟩, .string ⟨#[]⟩, .slice none 0 0, .int .u8 0, .int .u64 0, .string ⟨#[]⟩, .slice none 0 0, .slice none 0 0] 52)).drew := Frm2.of_below hbA
   have hRA := hR.below hbA
   have hlkd := HLK.out _ hFd
   have hlkA := HLK.out _ hFA
   have HXA : Hid (BoxG (wr.alloc (Obj.cells #[.bool false, .int .u64 0, .string ⟨#[]⟩, .int .u32 0, .string ⟨#[]⟩, .string ⟨#[]⟩, .slice none 0 0, .int .u8 0, .int .u64 0, .string ⟨#[]⟩, .slice none 0 0, .slice none 0 0] 52)).drew wr.heap.size zA (.slice none 0 0) (.int .u8 (0 : Nat)) (.int .u64 (0 : Nat)) (.string ⟨#[]⟩) (.slice none 0 0) (.slice none 0 0)) := Lib.hid (BoxG.zero wr)
   have hbw : b < wr.heap.size := hR.lt
   have hcf := fun w' => enter_dec sk[j].toNat hlj #[.pointer (some ⟨b, 0, none⟩), .int .i64 (widD sk[j].toNat)] w'
   have HFZ := Lib.hid (fun w' (h : Frm2 b b wr w') => h.trans (Frm2.of_below (b := b) (g := b) (below_box w' (Obj.cells #[.bool false, .int .u64 0, .string ⟨#[]⟩, .int .u32 0, .string ⟨#[]⟩, .string ⟨#[]⟩, .slice none 0 0, .int .u8 0, .int .u64 0, .string ⟨#[]⟩, .slice none 0 0, .slice none 0 0] 52))))
   have HKX := Lib.hid (fun w' (h : Frm2 b b (wr.alloc (Obj.cells #[.bool false, .int .u64 0, .string ⟨#[]⟩, .int .u32 0, .string ⟨#[]⟩, .string ⟨#[]⟩, .slice none 0 0, .int .u8 0, .int .u64 0, .string ⟨#[]⟩, .slice none 0 0, .slice none 0 0] 52)).drew w') (_ : Frm2 b b wr w') => (show BoxG w' wr.heap.size zA (.slice none 0 0) (.int .u8 (0 : Nat)) (.int .u64 (0 : Nat)) (.string ⟨#[]⟩) (.slice none 0 0) (.slice none 0 0) from (h.block _ HXA.out.lt (by show wr.heap.size ≠ b; omega) (by show wr.heap.size ≠ b; omega)).trans HXA.out))
   go_upto_region 7 with fail
   go_cut [9] from 19 to 29 (fun a9 wx => ∃ (n : Nat) (A6 : Option Addr) (c6 dq6 xk xn : Nat) (xs : ByteArray) (xa : Option Addr) (xb xc : Nat) (xd : Option Addr) (xe xf : Nat), a9 = .pointer (some ⟨n, 0, none⟩) ∧ Hid (BoxG wx n ⟨ri, rn, rs, rf, rg, rh, rq, rv⟩ (.slice A6 rq.length c6) (.int .u8 xk) (.int .u64 xn) (.string xs) (.slice xa xb xc) (.slice xd xe xf)) ∧ wr.heap.size ≤ n ∧ Frm2 b b wr wx ∧ RM wx b d S2 ∧
    Hid (ShowsA (pm (fun k => wr.heap.size ≤ k ∧ k ≠ n) wx) ⟨ri, rn, rs, rf, rg, rh, rq, rv⟩ A6 c6 dq6 (.int .u8 xk) (.int .u64 xn) (.string xs) (.slice xa xb xc) (.slice xd xe xf)))
   case first =>
    clear hlkd hlkA
    refine wp_region_held_drew (S := fun w' => Frm2 b b wr w') (by kernel_rfl) (Frm2.refl b b wr).drew (fun hHeld => ?_)
    refine wpAnyH_take (i := 0) (v := ?_) rfl (by kernel_rfl) (by kernel_rfl) (by kernel_rfl) (fun _ _ _ h => h) (Or.inl ⟨by rfl, ?_⟩) (by assumption) ?_
    rotate_left
    ·intro w hSw
     go_simp
     try with_reducible rfl
    try simp only [Act.put, List.setIfInBounds_toArray, List.set_cons_zero, List.set_cons_succ]
    refine wpAnyH_take (i := 1) (v := ?_) rfl (by kernel_rfl) (by kernel_rfl) (by kernel_rfl) (fun _ _ _ h => h) (Or.inl ⟨by rfl, ?_⟩) (by assumption) ?_
    rotate_left
    ·intro w hSw
     go_simp
     try with_reducible rfl
    try simp only [Act.put, List.setIfInBounds_toArray, List.set_cons_zero, List.set_cons_succ]
    refine wpAnyH_take (i := 2) (v := ?_) rfl (by kernel_rfl) (by kernel_rfl) (by kernel_rfl) (fun _ _ _ h => h) (Or.inl ⟨by rfl, ?_⟩) (by assumption) ?_
    rotate_left
    ·intro w hSw
     go_simp
     try with_reducible rfl
    try simp only [Act.put, List.setIfInBounds_toArray, List.set_cons_zero, List.set_cons_succ]
    refine wpAnyH_take (i := 3) (v := ?_) rfl (by kernel_rfl) (by kernel_rfl) (by kernel_rfl) (fun _ _ _ h => h) (Or.inl ⟨by rfl, ?_⟩) (by assumption) ?_
    rotate_left
    ·intro w hSw
     go_simp
     try with_reducible rfl
    try simp only [Act.put, List.setIfInBounds_toArray, List.set_cons_zero, List.set_cons_succ]
    refine wpAnyH_take (i := 4) (v := ?_) rfl (by kernel_rfl) (by kernel_rfl) (by kernel_rfl) (fun _ _ _ h => h) (Or.inl ⟨by rfl, ?_⟩) (by assumption) ?_
    rotate_left
    ·intro w hSw
     have hl := HLK.out _ hSw
     go_simp
     try with_reducible rfl
    try simp only [Act.put, List.setIfInBounds_toArray, List.set_cons_zero, List.set_cons_succ]
    refine wpAnyH_take (i := 5) (v := ?_) rfl (by kernel_rfl) (by kernel_rfl) (by kernel_rfl) (fun _ _ _ h => h) (Or.inl ⟨by rfl, ?_⟩) (by assumption) ?_
    rotate_left
    ·intro w hSw
     go_simp
     try with_reducible rfl
    try simp only [Act.put, List.setIfInBounds_toArray, List.set_cons_zero, List.set_cons_succ]
    refine wpAnyH_take (i := 6) (v := ?_) rfl (by kernel_rfl) (by kernel_rfl) (by kernel_rfl) (fun _ _ _ h => h) (Or.inl ⟨by rfl, ?_⟩) (by assumption) ?_
    rotate_left
    ·intro w hSw
     go_simp
     try with_reducible rfl
    try simp only [Act.put, List.setIfInBounds_toArray, List.set_cons_zero, List.set_cons_succ]
    refine wpAnyH_take (i := 7) (v := ?_) rfl (by kernel_rfl) (by kernel_rfl) (by kernel_rfl) (fun _ _ _ h => h) (Or.inl ⟨by rfl, ?_⟩) (by assumption) ?_
    rotate_left
    ·intro w hSw
     go_simp
     try with_reducible rfl
    try simp only [Act.put, List.setIfInBounds_toArray, List.set_cons_zero, List.set_cons_succ]
    refine wpAnyH_take (i := 8) (v := ?_) rfl (by kernel_rfl) (by kernel_rfl) (by kernel_rfl) (fun _ _ _ h => h) (Or.inl ⟨by rfl, ?_⟩) (by assumption) ?_
    rotate_left
    ·intro w hSw
     go_simp
     try with_reducible rfl
    try simp only [Act.put, List.setIfInBounds_toArray, List.set_cons_zero, List.set_cons_succ]
    refine wpAnyH_ready (rs := [9, 11]) (by kernel_rfl) (by simp) ?_
    refine AllReadyH.cons rfl (fun K hK => ?_) (AllReadyH.cons rfl (fun K hK => ?_) AllReadyH.nil)
    ·go_simp
     with_reducible refine (HWI.out _).mono ?_
     rintro e5 w5 ⟨rfl, rfl⟩
     refine hK.out _ _ (by assumption) (fun _ => ?_)
     clear hK K
     try simp only [Act.put, List.setIfInBounds_toArray, List.set_cons_zero, List.set_cons_succ]
     refine wpAnyH_ready (rs := [10, 11]) (by kernel_rfl) (by simp) ?_
     refine AllReadyH.cons rfl (fun K hK => ?_) (AllReadyH.cons rfl (fun K hK => ?_) AllReadyH.nil)
     ·go_simp
      with_reducible refine (HDC.out _ hRd).mono ?_
      rintro e6 w6 ⟨hF6, hR6, A6, c6, dq6, x0, x1, x2, x3, x4, rfl, hS6⟩
      obtain ⟨xk, xn, xs, xa, xb, xc, xd, xe, xf, hxx⟩ := hS6.v.cells5
      simp only [List.cons.injEq, and_true] at hxx
      obtain ⟨rfl, rfl, rfl, rfl, rfl⟩ := hxx
      have hF6' := HFT.out _ _ hF6 hFd
      refine hK.out _ _ hF6' (fun _ => ?_)
      clear hK K
      try simp only [Act.put, List.setIfInBounds_toArray, List.set_cons_zero, List.set_cons_succ]
      refine wpAnyH_ready (rs := [11]) (by kernel_rfl) (by simp) ?_
      refine AllReadyH.cons rfl (fun K hK => ?_) AllReadyH.nil
      have HX6 := Lib.hid (BoxG.zero w6)
      obtain ⟨⟨f0, f1, f2, f3⟩, ⟨f4, f5, f6, f7⟩, f8, f9, f10, f11⟩ := HX6.out.all
      obtain ⟨⟨p0, p1, p2⟩, ⟨p3, p4, p5⟩, p6, p7, p8, p9, p10, p11⟩ := HX6.out.cells
      go_simp
      refine hK.out _ _ (HFZ.out _ hF6') (fun _ => ?_)
      clear hK K
      try simp only [Act.put, List.setIfInBounds_toArray, List.set_cons_zero, List.set_cons_succ]
      refine wpAnyH_ready (rs := [12]) (by kernel_rfl) (by simp) ?_
      refine AllReadyH.cons rfl (fun K hK => ?_) AllReadyH.nil
      go_simp
      refine hK.out _ _ (hF6'.trans (Frm2.of_below (b := b) (g := b) (below_box w6 _))) (fun _ => ?_)
      clear hK K
      try simp only [Act.put, List.setIfInBounds_toArray, List.set_cons_zero, List.set_cons_succ]
      refine wpAnyH_done (by kernel_rfl) ?_ _
      go_wp2_with fail
      go_meet
      exact dec_new (ra := ⟨ri, rn, rs, rf, rg, rh, rq, rv⟩) wr w6 rfl hF6' hR6 hS6 (k := xk) (m := xn)
     ·go_simp
      refine hK.out _ _ hFA (fun _ => ?_)
      clear hK K
      try simp only [Act.put, List.setIfInBounds_toArray, List.set_cons_zero, List.set_cons_succ]
      refine wpAnyH_ready (rs := [10]) (by kernel_rfl) (by simp) ?_
      refine AllReadyH.cons rfl (fun K hK => ?_) AllReadyH.nil
      go_simp
      with_reducible refine (HDC.out _ hRA).mono ?_
      rintro e6 w6 ⟨hF6, hR6, A6, c6, dq6, x0, x1, x2, x3, x4, rfl, hS6⟩
      obtain ⟨xk, xn, xs, xa, xb, xc, xd, xe, xf, hxx⟩ := hS6.v.cells5
      simp only [List.cons.injEq, and_true] at hxx
      obtain ⟨rfl, rfl, rfl, rfl, rfl⟩ := hxx
      have hF6' := HFT.out _ _ hF6 hFA
      refine hK.out _ _ hF6' (fun _ => ?_)
      clear hK K
      try simp only [Act.put, List.setIfInBounds_toArray, List.set_cons_zero, List.set_cons_succ]
      refine wpAnyH_ready (rs := [12]) (by kernel_rfl) (by simp) ?_
      refine AllReadyH.cons rfl (fun K hK => ?_) AllReadyH.nil
      have HX7 := Lib.hid (HKX.out _ hF6 hF6')
      obtain ⟨⟨f0, f1, f2, f3⟩, ⟨f4, f5, f6, f7⟩, f8, f9, f10, f11⟩ := HX7.out.all
      obtain ⟨⟨p0, p1, p2⟩, ⟨p3, p4, p5⟩, p6, p7, p8, p9, p10, p11⟩ := HX7.out.cells
      go_simp
      refine hK.out _ _ (set12_frm (a := ⟨ri, rn, rs, rf, rg, rh, rq, rv⟩) hF6' (Nat.le_refl _)) (fun _ => ?_)
      clear hK K
      try simp only [Act.put, List.setIfInBounds_toArray, List.set_cons_zero, List.set_cons_succ]
      refine wpAnyH_done (by kernel_rfl) ?_ _
      go_wp2_with fail
      go_meet
      exact dec_old (ra := ⟨ri, rn, rs, rf, rg, rh, rq, rv⟩) wr w6 HX7.out hbw (by show wr.heap.size < (wr.alloc _).heap.size; rw [World.size_alloc]; exact Nat.lt_succ_self _) hF6' hR6 hS6 (k := xk) (m := xn)
    ·go_simp
     refine hK.out _ _ hFA (fun _ => ?_)
     clear hK K
     try simp only [Act.put, List.setIfInBounds_toArray, List.set_cons_zero, List.set_cons_succ]
     refine wpAnyH_ready (rs := [9]) (by kernel_rfl) (by simp) ?_
     refine AllReadyH.cons rfl (fun K hK => ?_) AllReadyH.nil
     go_simp
     with_reducible refine (HWI.out _).mono ?_
     rintro e5 w5 ⟨rfl, rfl⟩
     refine hK.out _ _ (by assumption) (fun _ => ?_)
     clear hK K
     try simp only [Act.put, List.setIfInBounds_toArray, List.set_cons_zero, List.set_cons_succ]
     refine wpAnyH_ready (rs := [10]) (by kernel_rfl) (by simp) ?_
     refine AllReadyH.cons rfl (fun K hK => ?_) AllReadyH.nil
     go_simp
     with_reducible refine (HDC.out _ hRA).mono ?_
     rintro e6 w6 ⟨hF6, hR6, A6, c6, dq6, x0, x1, x2, x3, x4, rfl, hS6⟩
     obtain ⟨xk, xn, xs, xa, xb, xc, xd, xe, xf, hxx⟩ := hS6.v.cells5
     simp only [List.cons.injEq, and_true] at hxx
     obtain ⟨rfl, rfl, rfl, rfl, rfl⟩ := hxx
     have hF6' := HFT.out _ _ hF6 hFA
     refine hK.out _ _ hF6' (fun _ => ?_)
     clear hK K
     try simp only [Act.put, List.setIfInBounds_toArray, List.set_cons_zero, List.set_cons_succ]
     refine wpAnyH_ready (rs := [12]) (by kernel_rfl) (by simp) ?_
     refine AllReadyH.cons rfl (fun K hK => ?_) AllReadyH.nil
     have HX7 := Lib.hid (HKX.out _ hF6 hF6')
     obtain ⟨⟨f0, f1, f2, f3⟩, ⟨f4, f5, f6, f7⟩, f8, f9, f10, f11⟩ := HX7.out.all
     obtain ⟨⟨p0, p1, p2⟩, ⟨p3, p4, p5⟩, p6, p7, p8, p9, p10, p11⟩ := HX7.out.cells
     go_simp
     refine hK.out _ _ (set12_frm (a := ⟨ri, rn, rs, rf, rg, rh, rq, rv⟩) hF6' (Nat.le_refl _)) (fun _ => ?_)
     clear hK K
     try simp only [Act.put, List.setIfInBounds_toArray, List.set_cons_zero, List.set_cons_succ]
     refine wpAnyH_done (by kernel_rfl) ?_ _
     go_wp2_with fail
     go_meet
     exact dec_old (ra := ⟨ri, rn, rs, rf, rg, rh, rq, rv⟩) wr w6 HX7.out hbw (by show wr.heap.size < (wr.alloc _).heap.size; rw [World.size_alloc]; exact Nat.lt_succ_self _) hF6' hR6 hS6 (k := xk) (m := xn)
   case rest =>
    obtain ⟨n, A6, c6, dq6, xk, xn, xs, xa, xb, xc, xd, xe, xf, rfl, hX6, hn, hF6, hR6, hS6⟩ := hcut
    clear hFd hRd hbA hFA hRA hlkd hlkA hcf
    obtain ⟨B, hB⟩ : ∃ B, B = decide (Fj % 2 = 1) := ⟨_, rfl⟩
    have tb : (bits BinOp.and IntKind.u64 (Fj : Int) 1 == 1) = B := by
     rw [and_one_u64 _ (by omega) (by omega), hB, Bool.eq_iff_iff]
     simp only [beq_iff_eq, decide_eq_true_eq]
     omega
    rw [← hB] at HNX
    clear hB
    have hXs := BoxG.setIs hX6.out B
    have hRs := hR6.other (w' := wc.setCell ⟨n, 0, none⟩ (.bool B)) (by simp) (fun k hk => Below.heap_setCell _ _ _ _ (by show k ≠ n; omega))
    have hFs := hF6.set hn 0 (.bool B)
    have hSs := hS6.out.sub (pm_pm (w' := wc.setCell ⟨n, 0, none⟩ (.bool B)) (Q := fun k => wr.heap.size ≤ k ∧ k ≠ n) (by simp) fun k hk _ => ⟨hk, Below.heap_setCell _ _ _ _ hk.2⟩)
    have f0 := hX6.out.fr 0
    have p0 := hX6.out.cells.1.1
    go_upto_region 10 with fail
    try simp only [tb]
    clear f0 p0 tb hX6 hR6 hS6 hF6
    generalize wc.setCell ⟨n, 0, none⟩ (.bool B) = W9 at *
    obtain ⟨⟨p0, p1, p2⟩, ⟨p3, p4, p5⟩, p6, p7, p8, p9, p10, p11⟩ := hXs.cells
    have HXs := Lib.hid hXs
    have hol := own_frm2 ho hFs hblt hblt
    have hbA : Below W9.heap.size W9 (W9.alloc (Obj.cells #[.bool B, .int .u64 rn, .string rs, .int .u32 rf, .string rg, .string rh, .slice A6 rq.length c6, .int .u8 xk, .int .u64 xn, .string xs, .slice xa xb xc, .slice xd xe xf] 52)) := (Below.refl _ _).alloc (Nat.le_refl _) _
    have hzA := hbA.size
    have hcs3 : cs.length ≤ 3 := by have := hrow.out.len; omega
    have hwB := hFw.size
    have hsz9 := hFs.size
    clear hXs
    go_wp2_with (at_builtin; refine wpList_appendW cellAC _ rfl (.tmp 36) (.tmp 38) 22 rfl w.heap.size 52 (.agg #[.bool false, .int .u64 0, .string ⟨#[]⟩, .int .u32 0, .string ⟨#[]⟩, .string ⟨#[]⟩, .slice none 0 0, .int .u8 0, .int .u64 0, .string ⟨#[]⟩, .slice none 0 0, .slice none 0 0]) 176 Tryz.underlying22 infoArg rfl _ cs rfl (hol.alloc_ _) W9.heap.size (.slice (some ⟨W9.heap.size, 0, none⟩) 1 1) [⟨⟨B, rn, rs, rf, rg, rh, rq, rv⟩, A6, rq.length, c6, ⟨xk, xn, xs, xa, xb, xc, xd, xe, xf⟩⟩] rfl (ShowsG.lit (C := cellAC) [⟨⟨B, rn, rs, rf, rg, rh, rq, rv⟩, A6, rq.length, c6, ⟨xk, xn, xs, xa, xb, xc, xd, xe, xf⟩⟩] (by simp [Code.all, cellAC, CellA.vs]) (by simp [maxLen])) (by simp) (by simp; omega) (by simp; omega) (by simp; omega) ?_; intro v6 w6 ho6 hg6 hwh6)
    have howB : ∀ k, u5.ownBlock = some k → w.heap.size ≤ k ∧ k < wr.heap.size := fun k hk => ho.block k hk
    have hkeep : ∀ k, k < W9.heap.size → u5.ownBlock ≠ some k → w6.heap[k]? = W9.heap[k]? := fun k hk hne => (hg6.block k (by simp; omega) (fun e => hne e.symm)).trans (hbA.block k hk)
    have hsz6 : W9.heap.size ≤ w6.heap.size := Nat.le_trans hbA.size hg6.size
    have hF10 : Frm2 b b w w6 := ((hFw.trans hFs).trans (Frm2.of_below hbA)).grown hg6 (fun k hk => (howB k hk).1)
    have hR10 : RM w6 b d S2 := hRs.other hsz6 (fun k hk => hkeep k (by omega) (fun e => by have := (howB k e).1; omega))
    have hdm10 : DecMap w6 p := (hdmw.keep (hFs.block p hdmw.lt (by omega) (by omega))).keep (hkeep p (by have := hdmw.lt; omega) hnp)
    have hnp10 : v6.ownBlock ≠ some p := by
     rcases hwh6 with e | e
     ·rw [e]; exact hnp
     ·rw [e]; intro e2; have := Option.some.inj e2; have := hdmw.lt; omega
    have hrow10 : RowA (pm (Free w.heap.size v6 (.slice none 0 0)) w6) (cs ++ [⟨⟨B, rn, rs, rf, rg, rh, rq, rv⟩, A6, rq.length, c6, ⟨xk, xn, xs, xa, xb, xc, xd, xe, xf⟩⟩]) (Lj ++ [⟨B, rn, rs, rf, rg, rh, rq, rv⟩]) := by
     refine RowA.snoc (y := ⟨⟨B, rn, rs, rf, rg, rh, rq, rv⟩, A6, rq.length, c6, ⟨xk, xn, xs, xa, xb, xc, xd, xe, xf⟩⟩) ((hrow.out.sub (free_frm2 hFs hblt hblt)).sub (free_left hbA hg6 hwh6)) ⟨rfl, dq6, ?_⟩
     have hSy : ShowsA (pm (fun k => wr.heap.size ≤ k ∧ k ≠ n) W9) ⟨B, rn, rs, rf, rg, rh, rq, rv⟩ A6 c6 dq6 (.int .u8 xk) (.int .u64 xn) (.string xs) (.slice xa xb xc) (.slice xd xe xf) := ⟨⟨hSs.sz.n, hSs.sz.f, hSs.sz.u, hSs.sz.s, hSs.sz.g, hSs.sz.h, hSs.sz.q⟩, hSs.q, hSs.v⟩
     refine hSy.sub (pm_pm hsz6 fun k hk hkw => ⟨⟨by omega, ?_, by simp [Value.ownBlock]⟩, hkeep k hkw (fun e => by have := (howB k e).2; omega)⟩)
     rcases hwh6 with e | e
     ·rw [e]; intro e2; have := (howB k e2).2; omega
     ·rw [e]; intro e2; have := Option.some.inj e2; omega
    have HP := Lib.hid (And.intro hrow10 (And.intro hR10 (And.intro hF10 (And.intro hdm10 hnp10))))
    have HO6 := Lib.hid ho6
    clear hrow10 hR10 hF10 hdm10 hnp10 ho6 hg6 hwh6 hkeep hol hrow ho hbA p0 p1 p2 p3 p4 p5 p6 p7 p8 p9 p10 p11 hR hdmw
    go_wp2_with fail
    go_roundw
    case rel => exact ⟨j + 1, _, _, Fj / 2, S2, by omega, by go_num, by first | rfl | simp, Lib.hid HNX.out, by omega, by simp; omega, Nat.le_trans HLE.out hlS, HO6.out, Lib.hid HP.out.1, HP.out.2.1, HP.out.2.2.1, HP.out.2.2.2.1, HP.out.2.2.2.2⟩
    case measure => simp [intOf]; omega
  ·have hjs : ¬ (j : Int) < (sk.size : Int) := by omega
   have hfin : (L, T) = (Lj, if Fj = 0 then Sj else none) := by
    have h1 := hX.out
    rw [List.take_of_length_le (by rw [sb_length]; omega)] at h1
    rw [HT.out, h1]
   by_cases h0 : Fj = 0
   ·have t1 : ((Fj : Int) == 0) = true := by rw [h0]; rfl
    rw [if_pos h0] at hfin
    simp only [Prod.mk.injEq] at hfin
    obtain ⟨rfl, rfl⟩ := hfin
    obtain ⟨A, c, rfl, hLA⟩ := listA_of ho hrow.out (by omega)
    have HLA := Lib.hid hLA
    have HM := Lib.hid (must_yes' b d T _ hR)
    clear HT HK hX hrow ho hLA hnp hdmw h0
    go_wp2_with fail
    with_reducible refine HM.out.mono ?_
    rintro e w3 ⟨rfl, rfl⟩
    go_wp2_with fail
    go_ret
    exact ⟨A, c, by rw [hLj]; rfl, HLA.out, hR, hFw⟩
   ·have t1 : ((Fj : Int) == 0) = false := by rw [beq_eq_false_iff_ne]; omega
    rw [if_neg h0] at hfin
    simp only [Prod.mk.injEq] at hfin
    obtain ⟨rfl, rfl⟩ := hfin
    obtain ⟨A, c, rfl, hLA⟩ := listA_of ho hrow.out (by omega)
    have HLA := Lib.hid hLA
    have HM := Lib.hid (must_no' b d Sj _ hR)
    clear HT HK hX hrow ho hLA hnp hdmw h0
    go_wp2_with fail
    with_reducible refine HM.out.mono ?_
    rintro e w3 ⟨rfl, hR3, hF3⟩
    go_wp2_with fail
    go_ret
    exact ⟨A, c, by rw [hLj]; rfl, HLA.out.sub (hF3.low hblt hblt), hR3, hFw.trans hF3⟩
theorem check_cnt {t : Tree} (h : checkT t = 0) : cntT t ≤ 200 := by
 unfold checkT at h
 split at h
 ·cases h
 ·split at h
  ·cases h
  ·omega
theorem zT_cnt : cntT zT ≤ 1000000 := by decide
theorem readA_cnt (k : Nat) (s : St) : cntT (readA k s).1.v ≤ 1000000 := by
 unfold readA
 split
 ·exact zT_cnt
 split
 ·exact zT_cnt
 split
 ·exact zT_cnt
 split
 ·exact zT_cnt
 split
 ·show cntT (nextV s).1 ≤ _
  unfold nextV
  cases s with
  | none => exact zT_cnt
  | some l =>
   cases hg : getP l with
   | none => simp only [hg]; exact zT_cnt
   | some y =>
    obtain ⟨t, n⟩ := y
    simp only [hg]
    have := check_cnt (put_get hg).1
    omega
 ·exact zT_cnt
theorem argsR_cnt : ∀ (ks : List UInt8) (fl : Nat) (s : St), ∀ a ∈ (argsR ks fl s).1, cntT a.v ≤ 1000000
 | [], fl, s, a, h => by cases h
 | k :: ks, fl, s, a, h => by
  simp only [argsR, List.mem_cons] at h
  rcases h with rfl | h
  ·exact readA_cnt _ _
  ·exact argsR_cnt ks _ _ a h
def ArgsLaw : Prop := ∀ (b d : Nat) (sk : ByteArray) (s : St) (w : World), RM w b d s → lenS s ≤ 140737488351232 → (∀ k ∈ sb sk, lett k.toNat) → sk.size ≤ 3 → Calls Tryz.prog 29 #[.pointer (some ⟨b, 0, none⟩), .string sk] w (ArgsSaid b d (sb sk) s w)
theorem mget_law (HA : ArgsLaw) (v : Value) (l : List UInt8) (d : Nat) (w : World) (h : Shows w d v l) (hl : l.length ≤ 140737488351232) : Calls Tryz.prog 12 #[v] w (MGetSaid (m_getM l) (errM l) w) := by
 match l, h, hl with
 | [], h, _ => exact mget_few v [] d w h (by simp)
 | [x], h, _ => exact mget_few v [x] d w h (by simp)
 | x :: y :: r, h, hl =>
  cases hs : m_findD x.toNat y.toNat with
  | none => exact mget_none x y r v d w h hs
  | some s =>
   have hk := kinds_ok (kinds_of hs)
   have hlr : r.length ≤ 140737488351232 := by simp at hl; omega
   refine mget_some x y r v d w s h hs hlr (Lib.hid fun b s' w' hR hls => HA b d s.kinds s' w' hR (by omega) hk.2.2.2.2 (by have := hk.2.2.2.1; rwa [sb_length] at this)) ?_
   intro a ha
   exact argsR_cnt _ _ _ a ha
end Go.Proofs.YtpbdnfonflmncaaGreat
