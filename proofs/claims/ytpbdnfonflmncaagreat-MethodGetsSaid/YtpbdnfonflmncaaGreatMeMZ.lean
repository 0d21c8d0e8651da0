/-
  Texts, together: MeM, MeN, MeO.
  Conditions: none but sizes.
-/
import Derived.MapKept
import Derived.ChangeMaps4
import Derived.Test.YtpbdnfonflmncaaGreatMeJZ
import Derived.Test.YtpbdnfonflmncaaGreatOctAZ
import Derived.Test.YtpbdnfonflmncaaGreatValGZ
import Derived.Test.YtpbdnfonflmncaaGreatValIZ
import Derived.Test.YtpbdnfonflmncaaGreatMeEZ
set_option linter.unusedVariables false
set_option linter.unusedSimpArgs false
namespace Go.Proofs.YtpbdnfonflmncaaGreat
open Go.RowKit Go.MapKept
open Go.ChangeMaps (setBlock heap_setBlock_same heap_setBlock_other)
def decF (k : Nat) : Nat := if k = 98 then 84 else if k = 115 ∨ k = 116 then 85 else if k = 120 then 86 else if k = 114 then 87 else if k = 118 then 88 else 58
def decE (k born : Nat) : MapEntry := ⟨.int .u8 (k : Nat), .func (.func (decF k)) #[] #[], born⟩
def decAll : List MapEntry := [decE 98 0, decE 110 1, decE 119 2, decE 100 3, decE 115 4, decE 116 5, decE 120 6, decE 114 7, decE 118 8]
def DecMap (w : World) (b : Nat) : Prop := w.heap[b]? = some (.map decAll.toArray 9)
theorem DecMap.keep {w w' : World} {b : Nat} (h : DecMap w b) (hk : w'.heap[b]? = w.heap[b]?) : DecMap w' b := hk.trans h
theorem DecMap.lt {w : World} {b : Nat} (h : DecMap w b) : b < w.heap.size := (Array.getElem?_eq_some_iff.1 h).1
theorem ins_step (w : World) (b : Nat) (l : List MapEntry) (clock k : Nat) (hb : w.heap[b]? = some (.map l.toArray clock)) (hno : Instr.findNow (.int .u8) (.int .u8 (k : Nat)) l 0 = some none) :
  ∃ w', (Instr.mapUpdate 109 (.map (some b)) (.int .u8 (k : Nat)) (.func (.func (decF k)) #[] #[])).run Tryz.prog w = .ok () w' ∧ w'.heap[b]? = some (.map (l ++ [decE k clock]).toArray (clock + 1)) ∧ w.grownBy w' (some b) ∧ w'.heap.size = w.heap.size := by
 have hk : IsKey (.int .u8) (.int .u8 (k : Nat)) := by simp [IsKey]
 refine ⟨setBlock w b (.map (l.toArray.push ⟨.int .u8 (k : Nat), .func (.func (decF k)) #[] #[], clock⟩) (clock + 1)), ?_, ?_, ⟨rfl, rfl, rfl, by simp [setBlock], fun i _ hi => heap_setBlock_other hb _ (fun e => hi (by rw [e]))⟩, by simp [setBlock]⟩
 ·simp [Instr.mapUpdate, run_underlying Tryz.underlying109, Go.MapKept.run_getObj_map hb, Go.MapKept.run_checkKey Tryz.underlying5 hk, Go.MapKept.run_findKey Tryz.underlying5 hno, Go.MapKept.run_setObj_map _ hb, Result.andThen, setBlock]
 ·rw [heap_setBlock_same hb _]
  simp [decE]
set_option maxRecDepth 100000 in
set_option maxHeartbeats 2000000 in
theorem decoders_any (w : World) : Calls Tryz.prog 60 #[] w fun e w' => ∃ b, e = .returned (.map (some b)) ∧ DecMap w' b ∧ w.heap.size ≤ b ∧ Below w.heap.size w w' := by
 have hmm := @run_makeMap Tryz.prog
 have hb0 : Below w.heap.size w (w.alloc (.map #[] 0)) := below_box w _
 have m0 : (w.alloc (.map #[] 0)).heap[w.heap.size]? = some (.map ([] : List MapEntry).toArray 0) := heap_alloc_new w _
 obtain ⟨w1, r1, m1, g1, s1⟩ := ins_step _ _ _ _ 98 m0 rfl
 obtain ⟨w2, r2, m2, g2, s2⟩ := ins_step _ _ _ _ 110 m1 rfl
 obtain ⟨w3, r3, m3, g3, s3⟩ := ins_step _ _ _ _ 119 m2 rfl
 obtain ⟨w4, r4, m4, g4, s4⟩ := ins_step _ _ _ _ 100 m3 rfl
 obtain ⟨w5, r5, m5, g5, s5⟩ := ins_step _ _ _ _ 115 m4 rfl
 obtain ⟨w6, r6, m6, g6, s6⟩ := ins_step _ _ _ _ 116 m5 rfl
 obtain ⟨w7, r7, m7, g7, s7⟩ := ins_step _ _ _ _ 120 m6 rfl
 obtain ⟨w8, r8, m8, g8, s8⟩ := ins_step _ _ _ _ 114 m7 rfl
 obtain ⟨w9, r9, m9, g9, s9⟩ := ins_step _ _ _ _ 118 m8 rfl
 have hB : Below w.heap.size w w9 := by
  have hr : ∀ k, some w.heap.size = some k → w.heap.size ≤ k := fun k e => by cases e; exact Nat.le_refl _
  have b1 := hb0.grown g1 hb0.size hr
  have b2 := b1.grown g2 b1.size hr
  have b3 := b2.grown g3 b2.size hr
  have b4 := b3.grown g4 b3.size hr
  have b5 := b4.grown g5 b4.size hr
  have b6 := b5.grown g6 b5.size hr
  have b7 := b6.grown g7 b6.size hr
  have b8 := b7.grown g8 b7.size hr
  exact b8.grown g9 b8.size hr
 have HB := Lib.hid (And.intro hB (show DecMap w9 w.heap.size from m9))
 have q1 : (Instr.mapUpdate 109 (.map (some w.heap.size)) (.int .u8 98) (.func (.func 84) #[] #[])).run Tryz.prog (w.alloc (.map #[] 0)) = .ok () w1 := r1
 have q2 : (Instr.mapUpdate 109 (.map (some w.heap.size)) (.int .u8 110) (.func (.func 58) #[] #[])).run Tryz.prog w1 = .ok () w2 := r2
 have q3 : (Instr.mapUpdate 109 (.map (some w.heap.size)) (.int .u8 119) (.func (.func 58) #[] #[])).run Tryz.prog w2 = .ok () w3 := r3
 have q4 : (Instr.mapUpdate 109 (.map (some w.heap.size)) (.int .u8 100) (.func (.func 58) #[] #[])).run Tryz.prog w3 = .ok () w4 := r4
 have q5 : (Instr.mapUpdate 109 (.map (some w.heap.size)) (.int .u8 115) (.func (.func 85) #[] #[])).run Tryz.prog w4 = .ok () w5 := r5
 have q6 : (Instr.mapUpdate 109 (.map (some w.heap.size)) (.int .u8 116) (.func (.func 85) #[] #[])).run Tryz.prog w5 = .ok () w6 := r6
 have q7 : (Instr.mapUpdate 109 (.map (some w.heap.size)) (.int .u8 120) (.func (.func 86) #[] #[])).run Tryz.prog w6 = .ok () w7 := r7
 have q8 : (Instr.mapUpdate 109 (.map (some w.heap.size)) (.int .u8 114) (.func (.func 87) #[] #[])).run Tryz.prog w7 = .ok () w8 := r8
 have q9 : (Instr.mapUpdate 109 (.map (some w.heap.size)) (.int .u8 118) (.func (.func 88) #[] #[])).run Tryz.prog w8 = .ok () w9 := r9
 clear m0 m1 m2 m3 m4 m5 m6 m7 m8 m9 g1 g2 g3 g4 g5 g6 g7 g8 g9 s1 s2 s3 s4 s5 s6 s7 s8 s9 hb0 hB r1 r2 r3 r4 r5 r6 r7 r8 r9
 go_enter Tryz.func60, Tryz.ntmps60
 go_wp2_with fail
 go_ret
 exact ⟨_, rfl, HB.out.2, Nat.le_refl _, HB.out.1⟩
theorem dec_look1 (w : World) (b k i : Nat) (e : MapEntry) (h : DecMap w b) (hf : Instr.findNow (.int .u8) (.int .u8 (k : Nat)) decAll 0 = some (some (i, e.val))) :
  (Instr.lookup 109 (.map (some b)) (.int .u8 (k : Nat)) false).run Tryz.prog w = .ok e.val w := by
 have hkk : IsKey (.int .u8) (.int .u8 (k : Nat)) := by simp [IsKey]
 simp [Instr.lookup, run_underlying Tryz.underlying109, Go.MapKept.run_getObj_map h, Go.MapKept.run_checkKey Tryz.underlying5 hkk, Go.MapKept.run_findKey Tryz.underlying5 hf, Result.andThen]
theorem dec_look (w : World) (b k : Nat) (h : DecMap w b) (hk : lett k) : (Instr.lookup 109 (.map (some b)) (.int .u8 (k : Nat)) false).run Tryz.prog w = .ok (.func (.func (decF k)) #[] #[]) w := by
 rcases hk with rfl | (rfl | rfl | rfl) | (rfl | rfl) | rfl | rfl | rfl
 ·exact dec_look1 w b 98 0 (decE 98 0) h rfl
 ·exact dec_look1 w b 110 1 (decE 110 1) h rfl
 ·exact dec_look1 w b 119 2 (decE 119 2) h rfl
 ·exact dec_look1 w b 100 3 (decE 100 3) h rfl
 ·exact dec_look1 w b 115 4 (decE 115 4) h rfl
 ·exact dec_look1 w b 116 5 (decE 116 5) h rfl
 ·exact dec_look1 w b 120 6 (decE 120 6) h rfl
 ·exact dec_look1 w b 114 7 (decE 114 7) h rfl
 ·exact dec_look1 w b 118 8 (decE 118 8) h rfl
end Go.Proofs.YtpbdnfonflmncaaGreat
namespace Go.Proofs.YtpbdnfonflmncaaGreat
open Go.RowKit
def RM (w : World) (b d : Nat) : St → Prop
  | some l => ∃ A c, w.heap[b]? = some (.cells #[.slice A l.length c, .bool false] 76 (0, 0)) ∧ Shows w d (.slice A l.length c) l ∧ (0 < l.length → d < b)
  | none => w.heap[b]? = some (.cells #[.slice none 0 0, .bool true] 76 (0, 0))
theorem RM.row {w : World} {b d : Nat} {s : St} (h : RM w b d s) : ∃ A n c x, w.heap[b]? = some (.cells #[.slice A n c, .bool x] 76 (0, 0)) ∧ x = s.isNone := by
 cases s with
 | none => exact ⟨_, _, _, _, h, rfl⟩
 | some l => obtain ⟨A, c, h1, _⟩ := h; exact ⟨_, _, _, _, h1, rfl⟩
theorem RM.lt {w : World} {b d : Nat} {s : St} (h : RM w b d s) : b < w.heap.size := by
 obtain ⟨A, n, c, x, h1, _⟩ := h.row
 exact (Array.getElem?_eq_some_iff.1 h1).1
theorem RM.keep {w w' : World} {b d : Nat} {s : St} (h : RM w b d s) (hs : w.heap.size ≤ w'.heap.size) (hb : w'.heap[b]? = w.heap[b]?) (hd : d < w.heap.size → w'.heap[d]? = w.heap[d]?) : RM w' b d s := by
 cases s with
 | none => exact hb.trans h
 | some l => obtain ⟨A, c, h1, h2, h3⟩ := h; exact ⟨A, c, hb.trans h1, h2.keep hs (fun hp => hd (h2.lt hp)), h3⟩
theorem RM.below {w w' : World} {b d : Nat} {s : St} (h : RM w b d s) (hb : Below w.heap.size w w') : RM w' b d s := h.keep hb.size (hb.block b h.lt) (fun hd => hb.block d hd)
theorem RM.other {w w' : World} {b d : Nat} {s : St} (h : RM w b d s) (hs : w.heap.size ≤ w'.heap.size) (hk : ∀ k, k ≤ b → w'.heap[k]? = w.heap[k]?) : RM w' b d s := by
 cases s with
 | none => exact (hk b (Nat.le_refl _)).trans h
 | some l => obtain ⟨A, c, h1, h2, h3⟩ := h; exact ⟨A, c, (hk b (Nat.le_refl _)).trans h1, h2.keep hs (fun hp => hk d (Nat.le_of_lt (h3 hp))), h3⟩
theorem must_yes' (b d : Nat) (s : St) (w : World) (h : RM w b d s) : Calls Tryz.prog 59 #[.pointer (some ⟨b, 0, none⟩), .bool true] w fun e w' => e = .returned (.tuple #[]) ∧ w' = w := by
 go_enter Tryz.func59, Tryz.ntmps59
 go_wp2_with fail
 first | go_end0 | refine bodyPost_ret (results_none rfl _ _ _) rfl ?_
 exact ⟨rfl, rfl⟩
set_option maxRecDepth 100000 in
theorem must_no' (b d : Nat) (s : St) (w : World) (h : RM w b d s) : Calls Tryz.prog 59 #[.pointer (some ⟨b, 0, none⟩), .bool false] w fun e w' => e = .returned (.tuple #[]) ∧ RM w' b d none ∧ Frm2 b b w w' := by
 obtain ⟨A, n, c, x, h1, _⟩ := h.row
 have hc0 : w.cell? ⟨b, 0, none⟩ = some (.slice A n c) := cell_of_row w b 0 _ 76 (0, 0) h1
 have hc1 : w.cell? ⟨b, 1, none⟩ = some (.bool x) := cell_of_row w b 1 _ 76 (0, 0) h1
 have hf0 : w.frozen? ⟨b, 0, none⟩ = false := frozen_of_row w b 0 _ 76 h1
 have hf1 : w.frozen? ⟨b, 1, none⟩ = false := frozen_of_row w b 1 _ 76 h1
 have H1 := Lib.hid h1
 clear h1 h
 go_enter Tryz.func59, Tryz.ntmps59
 go_wp2_with fail
 first | go_end0 | refine bodyPost_ret (results_none rfl _ _ _) rfl ?_
 refine ⟨rfl, ?_, ?_⟩
 ·exact heap_setCell_same _ b 1 _ 76 _ (heap_setCell_same w b 0 _ 76 _ H1.out)
 ·exact (Frm2.less b b w 0 _).trans (Frm2.less b b _ 1 _)
set_option maxRecDepth 100000 in
theorem pass_yes (b d : Nat) (l : List UInt8) (n : Nat) (w : World) (h : RM w b d (some l)) (hn : n ≤ l.length) (hl : l.length ≤ 140737488355328) :
  Calls Tryz.prog 82 #[.pointer (some ⟨b, 0, none⟩), .int .i64 n, .bool true] w fun e w' => e = .returned (.tuple #[]) ∧ RM w' b d (some (l.drop n)) ∧ Frm2 b b w w' := by
 have HM := Lib.hid (must_yes' b d (some l) w h)
 obtain ⟨A, c, h1, h2, h3⟩ := h
 have hc0 : w.cell? ⟨b, 0, none⟩ = some (.slice A l.length c) := cell_of_row w b 0 _ 76 (0, 0) h1
 have hc1 : w.cell? ⟨b, 1, none⟩ = some (.bool false) := cell_of_row w b 1 _ 76 (0, 0) h1
 have hf0 : w.frozen? ⟨b, 0, none⟩ = false := frozen_of_row w b 0 _ 76 h1
 have hlc := h2.lens
 have hnc : n ≤ c := by omega
 have hfin : ∀ A'' q, (¬ c = n → A'' = A.map (fun x => x.add n)) → q = c - n → RM (w.setCell ⟨b, 0, none⟩ (.slice A'' (l.length - n) q)) b d (some (l.drop n)) := fun A'' q hA hq => by
  subst hq
  refine ⟨A'', c - n, ?_, ?_, fun hp => h3 (by simp at hp; omega)⟩
  ·have := heap_setCell_same w b 0 _ 76 (.slice A'' (l.length - n) (c - n)) h1
   rw [List.length_drop]
   simpa using this
  ·have := h2.tail hn A'' hA
   rw [List.length_drop]
   exact this.keep (by simp [World.setCell]) fun hp => heap_setCell_other _ _ _ _ (fun e => by have h4 := h3 (by simp at hp; omega); simp at e; omega)
 have HFI := Lib.hid hfin
 clear h1 h2 h3 hfin
 go_enter Tryz.func82, Tryz.ntmps82
 go_wp2_with fail
 refine HM.out.mono ?_
 rintro e w1 ⟨rfl, rfl⟩
 go_wp2_with fail
 ·have E := Lib.hid h
  clear h
  first | go_end0 | refine bodyPost_ret (results_none rfl _ _ _) rfl ?_
  exact ⟨rfl, HFI.out A 0 (fun hcn => absurd E.out hcn) (by have := E.out; omega), Frm2.less b b _ 0 _⟩
 ·first | go_end0 | refine bodyPost_ret (results_none rfl _ _ _) rfl ?_
  exact ⟨rfl, HFI.out _ _ (fun _ => rfl) rfl, Frm2.less b b _ 0 _⟩
set_option maxRecDepth 100000 in
theorem pass_no (b d : Nat) (s : St) (n : Int) (w : World) (h : RM w b d s) :
  Calls Tryz.prog 82 #[.pointer (some ⟨b, 0, none⟩), .int .i64 n, .bool false] w fun e w' => e = .returned (.tuple #[]) ∧ RM w' b d none ∧ Frm2 b b w w' := by
 have HM := Lib.hid (must_no' b d s w h)
 clear h
 go_enter Tryz.func82, Tryz.ntmps82
 go_wp2_with fail
 refine HM.out.mono ?_
 rintro e w1 ⟨rfl, hr, hf⟩
 have hc1 : w1.cell? ⟨b, 1, none⟩ = some (.bool true) := cell_of_row w1 b 1 _ 76 (0, 0) hr
 go_wp2_with fail
 first | go_end0 | refine bodyPost_ret (results_none rfl _ _ _) rfl ?_
 exact ⟨rfl, hr, hf⟩
def frontS (n : Nat) : St → List UInt8
  | none => []
  | some l => l.take n
theorem RM.list {w : World} {b d : Nat} {s : St} (h : RM w b d s) : ∃ A c x, w.heap[b]? = some (.cells #[.slice A (s.getD []).length c, .bool x] 76 (0, 0)) ∧ Shows w d (.slice A (s.getD []).length c) (s.getD []) := by
 cases s with
 | none => exact ⟨none, 0, true, h, Shows.nil_ _ _⟩
 | some l => obtain ⟨A, c, h1, h2, _⟩ := h; exact ⟨A, c, false, h1, h2⟩
theorem front_take (n : Nat) (s : St) : frontS n s = (s.getD []).take n := by cases s <;> simp [frontS]
set_option maxRecDepth 100000 in
set_option maxHeartbeats 2000000 in
theorem front_any (b d : Nat) (s : St) (n : Nat) (w : World) (h : RM w b d s) (hl : lenS s ≤ 140737488355328) (hn : n ≤ 140737488355328) :
  Calls Tryz.prog 80 #[.pointer (some ⟨b, 0, none⟩), .int .i64 n] w fun e w' => ∃ g d', e = .returned (.pointer (some ⟨g, 0, none⟩)) ∧ RS w' g d' (some (frontS n s)) ∧ w.heap.size ≤ g ∧ (w.heap.size ≤ d' ∧ d' ≤ g) ∧ Below w.heap.size w w' := by
 rw [front_take]
 obtain ⟨A, c, x, h1, h2⟩ := h.list
 have hll : (s.getD []).length ≤ 140737488355328 := by cases s <;> simp_all [lenS]
 generalize s.getD [] = l at *
 obtain ⟨k, hk⟩ : ∃ k, k = min l.length n := ⟨_, rfl⟩
 have hkl : k ≤ l.length := by omega
 have hlc := h2.lens
 have hc0 : w.cell? ⟨b, 0, none⟩ = some (.slice A l.length c) := cell_of_row w b 0 _ 76 (0, 0) h1
 have hhd := h2.head hkl
 have htk : l.take k = l.take n := by rw [hk]; apply List.take_eq_take_iff.2; omega
 rw [htk] at hhd
 have HO := Lib.hid (open_any (.slice A k c) (l.take n) d w.drew hhd (by rw [List.length_take]; omega))
 have e1 : min (l.length : Int) (n : Int) = (k : Int) := by omega
 have e3 : (if n < l.length then (n : Int) else (l.length : Int)) = (k : Int) := by rw [hk]; split <;> omega
 have i1 : (0 : Int) ≤ (k : Int) := by omega
 have i2 : (k : Int) ≤ (l.length : Int) := by omega
 have i3 : (k : Int) ≤ (c : Int) := by omega
 have i4 : k ≤ c := by omega
 clear h h1 h2 hk htk hhd
 go_enter Tryz.func80, Tryz.ntmps80
 go_upto_region 1 with fail
 go_still_tail 12, (by kernel_rfl)
 change wpList _ _ _ _ _ w.drew
 go_wp2_with fail
 refine HO.out.mono ?_
 rintro e w2 ⟨g, d', rfl, hr, hg, hd, hb⟩
 go_wp2_with fail
 go_ret
 exact ⟨g, d', rfl, hr, hg, hd, (below_drew1 (Below.refl _ _)).trans hb⟩
end Go.Proofs.YtpbdnfonflmncaaGreat
namespace Go.Proofs.YtpbdnfonflmncaaGreat
open Go.RowKit
def DecSaid (b d : Nat) (w : World) (r : ArgP × St) (e : Ending) (w' : World) : Prop :=
  Frm2 b b w w' ∧ RM w' b d r.2 ∧ ∃ (A : Option Addr) (c dq : Nat) (v0 v1 v2 v3 v4 : Value), e = .returned (argV r.1 (.slice A r.1.q.length c) v0 v1 v2 v3 v4) ∧ ShowsA (lowm w.heap.size w') r.1 A c dq v0 v1 v2 v3 v4
theorem RM.grown {w w' : World} {b d g : Nat} {s : St} (h : RM w b d s) (hg : w.grownBy w' (some g)) (hb : b < g) : RM w' b d s :=
 h.other hg.size (fun k hk => hg.block k (Nat.lt_of_le_of_lt hk h.lt) (fun e => by cases e; omega))
theorem frm_below {b : Nat} {w w' : World} (h : Below w.heap.size w w') : Frm2 b b w w' := Frm2.of_below h
theorem num_front (q : Nat) (s : St) (hq : num (q : Int) = true) : (∃ l, s = some l ∧ q ≤ l.length ∧ numS (q : Int) s = (numOf (l.take q), some (l.drop q)) ∧ numS (q : Int) (some (frontS q s)) = (numOf (l.take q), some [])) ∨
  (numS (q : Int) s = (0, none) ∧ numS (q : Int) (some (frontS q s)) = (0, none)) := by
 cases s with
 | none =>
  right
  have hq1 : 1 ≤ q := by
   rcases Nat.eq_zero_or_pos q with rfl | h
   ·revert hq; decide
   ·exact h
  exact ⟨by simp [numS, takeS, numOf], numS_far q _ hq (by simp [frontS]; omega)⟩
 | some l =>
  by_cases h : q ≤ l.length
  ·left
   refine ⟨l, rfl, h, numS_ok q l hq h, ?_⟩
   have := numS_ok q (l.take q) hq (by simp; omega)
   simp only [frontS]
   rw [this, List.take_take, Nat.min_self, List.drop_eq_nil_of_le (by simp; omega)]
  ·right
   exact ⟨numS_far q l hq (by omega), numS_far q _ hq (by simp [frontS]; omega)⟩
theorem BoxG.zero (w : World) : BoxG (w.alloc (Obj.cells #[.bool false, .int .u64 0, .string ⟨#[]⟩, .int .u32 0, .string ⟨#[]⟩, .string ⟨#[]⟩, .slice none 0 0, .int .u8 0, .int .u64 0, .string ⟨#[]⟩, .slice none 0 0, .slice none 0 0] 52)) w.heap.size zA (.slice none 0 0) (.int .u8 (0 : Nat)) (.int .u64 (0 : Nat)) (.string ⟨#[]⟩) (.slice none 0 0) (.slice none 0 0) := heap_alloc_new w _
def set12 (w : World) (p : Nat) (a : ArgP) (qv v0 v1 v2 v3 v4 : Value) : World :=
  ((((((((((((w.setCell ⟨p, 0, none⟩ (.bool a.is)).setCell ⟨p, 1, none⟩ (.int .u64 a.n)).setCell ⟨p, 2, none⟩ (.string a.s)).setCell ⟨p, 3, none⟩ (.int .u32 a.f)).setCell ⟨p, 4, none⟩ (.string a.g)).setCell ⟨p, 5, none⟩ (.string a.h)).setCell ⟨p, 6, none⟩ qv).setCell ⟨p, 7, none⟩ v0).setCell ⟨p, 8, none⟩ v1).setCell ⟨p, 9, none⟩ v2).setCell ⟨p, 10, none⟩ v3).setCell ⟨p, 11, none⟩ v4)
section
variable {w : World} {p : Nat} {a a' : ArgP} {qv v0 v1 v2 v3 v4 qv' u0 u1 u2 u3 u4 : Value}
theorem set12_box (h : BoxG w p a' qv' u0 u1 u2 u3 u4) : BoxG (set12 w p a qv v0 v1 v2 v3 v4) p a qv v0 v1 v2 v3 v4 :=
 (((((h.setIs a.is).setN a.n).setS a.s).setX a.f a.g a.h).setQ qv a.q).setV v0 v1 v2 v3 v4 a.v
theorem set12_size : (set12 w p a qv v0 v1 v2 v3 v4).heap.size = w.heap.size := by simp [set12]
theorem set12_other (k : Nat) (hk : k ≠ p) : (set12 w p a qv v0 v1 v2 v3 v4).heap[k]? = w.heap[k]? := by
 unfold set12
 repeat rw [Below.heap_setCell _ _ _ k hk]
theorem set12_frm {b g : Nat} {w0 : World} (h : Frm2 b g w0 w) (hp : w0.heap.size ≤ p) : Frm2 b g w0 (set12 w p a qv v0 v1 v2 v3 v4) :=
 (((((((((((h.set hp 0 _).set hp 1 _).set hp 2 _).set hp 3 _).set hp 4 _).set hp 5 _).set hp 6 _).set hp 7 _).set hp 8 _).set hp 9 _).set hp 10 _).set hp 11 _
theorem set12_sub {B : Nat} (hp : p < B) : Sub (lowm B w) (lowm B (set12 w p a qv v0 v1 v2 v3 v4)) :=
 (((((((((((low_set hp 0 _).trans (low_set hp 1 _)).trans (low_set hp 2 _)).trans (low_set hp 3 _)).trans (low_set hp 4 _)).trans (low_set hp 5 _)).trans (low_set hp 6 _)).trans (low_set hp 7 _)).trans (low_set hp 8 _)).trans (low_set hp 9 _)).trans (low_set hp 10 _)).trans (low_set hp 11 _)
end
theorem dec_end {w W : World} {b d p : Nat} {s : St} {a a' : ArgP} {A : Option Addr} {c dq : Nat} {v0 v1 v2 v3 v4 qv' u0 u1 u2 u3 u4 : Value} (hp : p = w.heap.size) (hb : b < p) (hX : BoxG W p a' qv' u0 u1 u2 u3 u4) (hF : Frm2 b b w W) (hR : RM W b d s) (hS : ShowsA (lowm (p + 1) W) a A c dq v0 v1 v2 v3 v4) :
  BoxG (set12 W p a (.slice A a.q.length c) v0 v1 v2 v3 v4) p a (.slice A a.q.length c) v0 v1 v2 v3 v4 ∧ DecSaid b d w (a, s) (.returned (argV a (.slice A a.q.length c) v0 v1 v2 v3 v4)) (set12 W p a (.slice A a.q.length c) v0 v1 v2 v3 v4) := by
 subst hp
 refine ⟨set12_box hX, set12_frm hF (Nat.le_refl _), hR.other (by rw [set12_size]; exact Nat.le_refl _) (fun k hk => set12_other k (by omega)), A, c, dq, v0, v1, v2, v3, v4, rfl, ?_⟩
 exact hS.sub ((set12_sub (Nat.lt_succ_self _)).trans (low_anti (Nat.le_succ _)))
set_option maxRecDepth 100000 in
set_option maxHeartbeats 4000000 in
theorem nothing_any (b d : Nat) (s : St) (q : Int) (w : World) (h : RM w b d s) : Calls Tryz.prog 84 #[.pointer (some ⟨b, 0, none⟩), .int .i64 q] w (DecSaid b d w (zA, s)) := by
 have hb0 : Below w.heap.size w (w.alloc (Obj.cells #[.bool false, .int .u64 0, .string ⟨#[]⟩, .int .u32 0, .string ⟨#[]⟩, .string ⟨#[]⟩, .slice none 0 0, .int .u8 0, .int .u64 0, .string ⟨#[]⟩, .slice none 0 0, .slice none 0 0] 52)) := below_box w _
 have hX := BoxG.zero w
 have hR := h.below hb0
 generalize hW : w.alloc (Obj.cells #[.bool false, .int .u64 0, .string ⟨#[]⟩, .int .u32 0, .string ⟨#[]⟩, .string ⟨#[]⟩, .slice none 0 0, .int .u8 0, .int .u64 0, .string ⟨#[]⟩, .slice none 0 0, .slice none 0 0] 52) = W at *
 have HW := Lib.hid hW
 have f0 := hX.fr 0
 have f1 := hX.fr 1
 have f2 := hX.fr 2
 have f3 := hX.fr 3
 have f4 := hX.fr 4
 have f5 := hX.fr 5
 have f6 := hX.fr 6
 have f7 := hX.fr 7
 have f8 := hX.fr 8
 have f9 := hX.fr 9
 have f10 := hX.fr 10
 have f11 := hX.fr 11
 obtain ⟨⟨p0, p1, p2⟩, ⟨p3, p4, p5⟩, p6, p7, p8, p9, p10, p11⟩ := hX.cells
 have hlt := h.lt
 have HX := Lib.hid (And.intro hX (And.intro hR hb0))
 clear hX hR hb0 hW h
 go_enter Tryz.func84, Tryz.ntmps84
 go_upto_region 1 with fail
 rw [HW.out]
 go_wp2_with fail
 obtain ⟨hb12, hsaid⟩ := dec_end (a := zA) (A := none) (c := 0) (dq := 0) rfl hlt HX.out.1 (frm_below HX.out.2.2) HX.out.2.1 (shows_zA _ 0)
 exact bodyPost_ret (results_cell_row rfl _ _ w.heap.size 52 _ (0, 0) _ rfl hb12 Tryz.underlying52 rfl (by kernel_rfl)) rfl hsaid
end Go.Proofs.YtpbdnfonflmncaaGreat
