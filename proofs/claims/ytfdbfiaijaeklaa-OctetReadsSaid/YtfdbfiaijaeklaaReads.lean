/-
  OctetReads: for every input the law returns true, and its arguments read as before.
  Conditions: none.
-/
import Derived.Test.YtfdbfiaijaeklaaQ
import Derived.Test.YtfdbfiaijaeklaaBad
import Derived.Deep.RegionHeld3
import Derived.Deep.DeepCutAuto
import Derived.Deep.CutBlock
namespace Go.Proofs.Ytfdbfiaijaeklaa
open Go.ChangeShapes Go.WideShapes Go.ChangeAt Go.RowKit
set_option linter.unusedVariables false
set_option linter.unusedSimpArgs false

/-- Both readers, the program's in block g (bytes in d) and the document's in g' (bytes in d'), have s and t left; block X holds a call's three cells. -/
structure Tri (g d g' d' X : Nat) (c0 c1 c2 : Value) (W w : World) (s t : Option (List UInt8)) : Prop where
  r : RS w g d s
  q : QS w g' d' t
  b : Below W.heap.size W w
  x : w.heap[X]? = some (.cells #[c0, c1, c2] 41 (0, 0))
  h1 : g ≠ g'
  h2 : g ≠ d'
  h3 : g' ≠ d
  h4 : W.heap.size ≤ g
  h5 : W.heap.size ≤ g'
  h6 : X ≠ g
  h7 : X ≠ g'
  ls : lenS s ≤ 140737488355328
  lt : lenS t ≤ 140737488355328

section
variable {g d g' d' X : Nat} {c0 c1 c2 : Value} {W w w' : World} {s t s' : Option (List UInt8)}
theorem Tri.stepR (h : Tri g d g' d' X c0 c1 c2 W w s t) (hr : RS w' g d s') (hg : w.grownBy w' (some g)) (hl : lenS s' ≤ lenS s) : Tri g d g' d' X c0 c1 c2 W w' s' t where
  r := hr
  q := h.q.keep hg.size (hg.block _ h.q.lt (fun e => h.h1 (by injection e with e; exact e.symm))) (fun hd => hg.block _ hd (fun e => h.h2 (by injection e with e; exact e.symm)))
  b := h.b.trans (below_of_grown hg h.h4 h.b.size)
  x := (hg.block _ (Array.getElem?_eq_some_iff.1 h.x).1 (fun e => h.h6 (by injection e))).trans h.x
  h1 := h.h1
  h2 := h.h2
  h3 := h.h3
  h4 := h.h4
  h5 := h.h5
  h6 := h.h6
  h7 := h.h7
  ls := Nat.le_trans hl h.ls
  lt := h.lt
theorem Tri.stepQ (h : Tri g d g' d' X c0 c1 c2 W w s t) (hr : QS w' g' d' s') (hg : w.grownBy w' (some g')) (hl : lenS s' ≤ lenS t) : Tri g d g' d' X c0 c1 c2 W w' s s' where
  r := h.r.keep hg.size (hg.block _ h.r.lt (fun e => h.h1 (by injection e))) (fun hd => hg.block _ hd (fun e => h.h3 (by injection e with e; exact e.symm)))
  q := hr
  b := h.b.trans (below_of_grown hg h.h5 h.b.size)
  x := (hg.block _ (Array.getElem?_eq_some_iff.1 h.x).1 (fun e => h.h7 (by injection e))).trans h.x
  h1 := h.h1
  h2 := h.h2
  h3 := h.h3
  h4 := h.h4
  h5 := h.h5
  h6 := h.h6
  h7 := h.h7
  ls := h.ls
  lt := Nat.le_trans hl h.lt
theorem Tri.drew (h : Tri g d g' d' X c0 c1 c2 W w s t) : Tri g d g' d' X c0 c1 c2 W w.drew s t where
  r := h.r.keep (Nat.le_refl _) rfl fun _ => rfl
  q := h.q.keep (Nat.le_refl _) rfl fun _ => rfl
  b := h.b.drew
  x := h.x
  h1 := h.h1
  h2 := h.h2
  h3 := h.h3
  h4 := h.h4
  h5 := h.h5
  h6 := h.h6
  h7 := h.h7
  ls := h.ls
  lt := h.lt
theorem Tri.cells (h : Tri g d g' d' X c0 c1 c2 W w s t) : w.cell? ⟨X, 1, none⟩ = some c1 ∧ w.cell? ⟨X, 2, none⟩ = some c2 :=
  ⟨by rw [cell_of_row w _ _ _ 41 (0, 0) h.x]; rfl, by rw [cell_of_row w _ _ _ 41 (0, 0) h.x]; rfl⟩
theorem Tri.cell0 (h : Tri g d g' d' X c0 c1 c2 W w s t) : w.cell? ⟨X, 0, none⟩ = some c0 := by rw [cell_of_row w _ _ _ 41 (0, 0) h.x]; rfl

theorem Tri.set_ (h : Tri g d g' d' X c0 c1 c2 W w s t) (b j : Nat) (u : Value) (b1 : b ≠ g) (b2 : b ≠ d) (b3 : b ≠ g') (b4 : b ≠ d') (b5 : b ≠ X) (b6 : W.heap.size ≤ b) : Tri g d g' d' X c0 c1 c2 W (w.setCell ⟨b, j, none⟩ u) s t where
  r := h.r.keep (by simp [World.setCell]) (heap_setCell_other _ _ _ _ (fun e => b1 (by simpa using e.symm))) (fun _ => heap_setCell_other _ _ _ _ (fun e => b2 (by simpa using e.symm)))
  q := h.q.keep (by simp [World.setCell]) (heap_setCell_other _ _ _ _ (fun e => b3 (by simpa using e.symm))) (fun _ => heap_setCell_other _ _ _ _ (fun e => b4 (by simpa using e.symm)))
  b := h.b.setCell b6 _
  x := (heap_setCell_other _ _ _ _ (fun e => b5 (by simpa using e.symm))).trans h.x
  h1 := h.h1
  h2 := h.h2
  h3 := h.h3
  h4 := h.h4
  h5 := h.h5
  h6 := h.h6
  h7 := h.h7
  ls := h.ls
  lt := h.lt

theorem tri_num (q : Int) (h : Tri g d g' d' X c0 c1 c2 W w s t) : Calls Try.prog 16 #[.pointer (some ⟨g, 0, none⟩), .int .i64 q] w fun e w' => e = .returned (.int .u64 (numS q s).1) ∧ Tri g d g' d' X c0 c1 c2 W w' (numS q s).2 t :=
  (num_any g d s q w h.r h.ls).mono fun _ _ ⟨h1, h2, h3⟩ => ⟨h1, h.stepR h2 h3 (numS_lenS q s)⟩
theorem tri_qnum (q : Int) (h : Tri g d g' d' X c0 c1 c2 W w s t) : Calls Try.prog 17 #[.pointer (some ⟨g', 0, none⟩), .int .i64 q] w fun e w' => e = .returned (.int .u64 (numS q t).1) ∧ Tri g d g' d' X c0 c1 c2 W w' s (numS q t).2 :=
  (qnum_any g' d' t q w h.q h.lt).mono fun _ _ ⟨h1, h2, h3⟩ => ⟨h1, h.stepQ h2 h3 (numS_lenS q t)⟩
theorem textS_lenS (q m : Int) (s : Option (List UInt8)) : lenS (textS q m s).2 ≤ lenS s := by
  unfold textS
  generalize (if txt q = true then q else -1) = q'
  have h1 := numS_lenS q' s
  unfold textT
  split
  · exact Nat.le_trans (takeS_lenS _ _) h1
  · exact Nat.le_trans (takeS_lenS _ _) h1
theorem tri_text (q m : Int) (m1 : -9223372036854775808 ≤ m) (m2 : m ≤ 9223372036854775807) (h : Tri g d g' d' X c0 c1 c2 W w s t) : Calls Try.prog 18 #[.pointer (some ⟨g, 0, none⟩), .int .i64 q, .int .i64 m] w fun e w' => e = .returned (.string (str8 (textS q m s).1)) ∧ Tri g d g' d' X c0 c1 c2 W w' (textS q m s).2 t :=
  (text_any g d s q m w h.r h.ls m1 m2).mono fun _ _ ⟨h1, h2, h3⟩ => ⟨h1, h.stepR h2 h3 (textS_lenS q m s)⟩
theorem tri_qtext (q m : Int) (m1 : -9223372036854775808 ≤ m) (m2 : m ≤ 9223372036854775807) (h : Tri g d g' d' X c0 c1 c2 W w s t) : Calls Try.prog 19 #[.pointer (some ⟨g', 0, none⟩), .int .i64 q, .int .i64 m] w fun e w' => e = .returned (.string (str8 (textS q m t).1)) ∧ Tri g d g' d' X c0 c1 c2 W w' s (textS q m t).2 :=
  (qtext_any g' d' t q m w h.q h.lt m1 m2).mono fun _ _ ⟨h1, h2, h3⟩ => ⟨h1, h.stepQ h2 h3 (textS_lenS q m t)⟩
theorem tri_take (n : Int) (h : Tri g d g' d' X c0 c1 c2 W w s t) : Calls Try.prog 20 #[.pointer (some ⟨g, 0, none⟩), .int .i64 n] w fun e w' => ∃ v, e = .returned v ∧ Own 5 w' w.heap.size v (takeS n s).1 ∧ w.heap.size ≤ w'.heap.size ∧ Tri g d g' d' X c0 c1 c2 W w' (takeS n s).2 t :=
  (take_any g d s n w h.r h.ls).mono fun _ _ ⟨v, h1, ho, h2, h3⟩ => ⟨v, h1, ho, h3.size, h.stepR h2 h3 (takeS_lenS n s)⟩
theorem tri_qtake (n : Int) (h : Tri g d g' d' X c0 c1 c2 W w s t) : Calls Try.prog 21 #[.pointer (some ⟨g', 0, none⟩), .int .i64 n] w fun e w' => ∃ v, e = .returned v ∧ Own 5 w' w.heap.size v (takeS n t).1 ∧ w.grownBy w' (some g') ∧ Tri g d g' d' X c0 c1 c2 W w' s (takeS n t).2 :=
  (qtake_any g' d' t n w h.q h.lt).mono fun _ _ ⟨v, h1, ho, h2, h3⟩ => ⟨v, h1, ho, h3, h.stepQ h2 h3 (takeS_lenS n t)⟩
end

theorem Own.at_ {w : World} {base n c : Nat} {A : Option Addr} {m : List UInt8} {e : TypeId} (h : Own e w base (.slice A n c) m) (hp : 0 < n) :
    ∃ b, A = some ⟨b, 0, none⟩ ∧ base ≤ b ∧ b < w.heap.size ∧ (∀ j, w.frozen? ⟨b, j, none⟩ = false) ∧ ∀ j (hj : j < m.length), w.cell? ⟨b, j, none⟩ = some (u8c m[j]) := by
  rcases h.2 with ⟨h1, h2⟩ | ⟨b, cap, cur, h1, hb, hg, _⟩
  · cases h1; omega
  · cases h1
    refine ⟨b, rfl, hb, (Array.getElem?_eq_some_iff.1 hg).1, fun j => frozen_of_row w b j cur e hg, fun j hj => ?_⟩
    rw [World.ownsRow.cellAt h j (by omega)]
    simp [bs, hj]
theorem Own.set_ {w : World} {base b n c : Nat} {m : List UInt8} {e : TypeId} (h : Own e w base (.slice (some ⟨b, 0, none⟩) n c) m) (hn : m.length = n) (j : Nat) (y : UInt8) (u : Value) (hu : u = u8c y) :
    Own e (w.setCell ⟨b, j, none⟩ u) base (.slice (some ⟨b, 0, none⟩) n c) (m.set j y) := by
  subst hu
  subst hn
  have := (World.ownsRow.stored h j (u8c y)).1
  unfold Own
  rw [List.length_set]
  have e : bs (m.set j y) = (bs m).set j (u8c y) := by simp [bs, List.map_set]
  rw [e]
  exact this

set_option maxRecDepth 100000 in
set_option maxHeartbeats 2000000 in
theorem reads_walk (A0 A1 : Option Addr) (c0 c1 n : Nat) (B : List UInt8) (F : Nat → Nat → Value) (d0 d1 : Nat) (w : World)
    (h0 : Shows w d0 (.slice A0 B.length c0) B) (h1 : ShowsN w d1 (.slice A1 n c1) n 3 F) (hF : AskOk n F) (hb : B.length ≤ 140737488355328) (hb1 : n ≤ 140737488355328) :
    Calls Try.prog 4 #[.slice A0 B.length c0, .slice A1 n c1] w fun e w' => e = .returned (.bool true) ∧ Below w.heap.size w w' := by
  have HF := Lib.hid hF
  clear hF
  go_enter Try.func4, Try.ntmps4
  go_wp2_with (at_builtin
               refine wpList_append8 _ rfl (.const (.slice none 0 0)) (.tmp 14) 22 rfl w.heap.size 5 Try.underlying22 info5 (.slice none 0 0) [] rfl (Own.nil_ _ _ _) d0 _ B rfl h0 (by simpa using hb) (Nat.le_refl _) ?_
               intro v1 w1 ho1 hg1
               rw [List.nil_append] at ho1
               have hb1' : Below w.heap.size w w1 := (Below.refl _ _).grown hg1 (Nat.le_refl _) (by simp [Value.ownBlock]))
  obtain ⟨b1, hl1, hl2, hs1⟩ := ho1.shows' hb1'.size
  refine (open_any v1 B b1 _ hs1 hb).mono ?_
  rintro e w2 ⟨g, d, rfl, hr2, hg2, ⟨hd2, hd2'⟩, hb2⟩
  have hB2 : Below w.heap.size w w2 := hb1'.trans (hb2.mono hb1'.size)
  go_wp2_with fail
  refine (qopen_any _ B d0 _ (h0.keep hB2.size fun hp => hB2.block _ (h0.lt hp)) hb).mono ?_
  rintro e w3 ⟨g', d', rfl, hq3, hg3, ⟨hd3, hd3'⟩, hb3⟩
  have hB3 : Below w.heap.size w w3 := hB2.trans (hb3.mono hB2.size)
  have hr3 : RS w3 g d (some B) := hr2.keep hb3.size (hb3.block _ hr2.lt) fun hd => hb3.block _ hd
  have hgl := hr2.lt
  have ho3 : Own 5 w3 w.heap.size v1 B := ho1.keep fun k hk => (hb3.block _ (by have := (ho1.block k hk).2; have := hb2.size; omega)).trans (hb2.block _ (ho1.block k hk).2)
  have hob : ∀ k, v1.ownBlock = some k → k < w1.heap.size := fun k hk => (ho1.block k hk).2
  have h13 : ShowsN w3 d1 (.slice A1 n c1) n 3 F := h1.below hB3
  have h1l : 0 < n → d1 < w.heap.size := fun hp => by obtain ⟨A, c, e, _, _, hc⟩ := h1; exact (hc hp).choose_spec.2.1
  have HOB := Lib.hid hob
  have H1L := Lib.hid h1l
  clear hob h1l
  obtain ⟨A, c, rfl, _⟩ := ho1.form
  clear hs1 ho1 hr2 h1 h0
  go_wp2_with fail
  go_loopw [8] (fun i wr => ∃ (k : Nat) (m : List UInt8), k ≤ B.length ∧ i = .int .i64 k ∧ m.length = B.length ∧ Own 5 wr w.heap.size (.slice A B.length c) m ∧ RS wr g d (some B) ∧ QS wr g' d' (some B) ∧ Below w.heap.size w wr) (fun i _ => B.length - (intOf i).toNat)
  case atStart => exact ⟨0, B, Nat.zero_le _, rfl, rfl, ho3, hr3, hq3, hB3⟩
  case round =>
    obtain ⟨k, m, hk, rfl, hml, hom, hrr, hqr, hbr⟩ := hrel
    by_cases hlt : k < B.length
    · obtain ⟨b, rfl, hbb, hbl, hfz, hcl⟩ := hom.at_ (by omega)
      have hcc : wr.cell? ⟨b, k, none⟩ = some (.int .u8 (m[k]'(by omega)).toNat) := hcl k (by omega)
      have hlo : ((m[k]'(by omega)).toNat : Int) < 256 := by have := (m[k]'(by omega : k < m.length)).toNat_lt; omega
      have hbg : b < w1.heap.size := HOB.out b rfl
      have hy : u8c (UInt8.ofNat ((m[k]'(by omega)).toNat + 1)) = .int .u8 ((((m[k]'(by omega)).toNat : Int) + 1) % 256) := by simp [u8c]
      have HY := Lib.hid hy
      generalize (m[k]'(by omega)).toNat = x at *
      clear hcl hy
      go_wp2_with fail
      go_roundw
      case rel =>
        have hz := hb2.size
        have hz3 := hb3.size
        have f : ∀ q, q ≠ b → (wr.setCell ⟨b, k, none⟩ (.int .u8 (((x : Int) + 1) % 256))).heap[q]? = wr.heap[q]? := fun q hq => heap_setCell_other _ _ _ _ hq
        refine ⟨k + 1, m.set k (UInt8.ofNat (x + 1)), by omega, by go_num, by rw [List.length_set]; exact hml, hom.set_ hml k _ _ HY.out.symm, ?_, ?_, hbr.setCell hbb _⟩
        · exact hrr.keep (by simp [World.setCell]) (f _ (by omega)) (fun _ => f _ (by omega))
        · exact hqr.keep (by simp [World.setCell]) (f _ (by omega)) (fun _ => f _ (by omega))
      case measure => simp [intOf]; omega
    · go_wp2_with fail
      go_loopw [9] (fun i wv => ∃ (k : Nat) (s : Option (List UInt8)), k ≤ n ∧ k ≤ 200 ∧ i = .int .i64 k ∧ RS wv g d s ∧ QS wv g' d' s ∧ lenS s ≤ 140737488355328 ∧ Below w.heap.size w wv) (fun i _ => n - (intOf i).toNat)
      case atStart => exact ⟨0, some B, Nat.zero_le _, by omega, rfl, hrr, hqr, hb, hbr⟩
      case round =>
        rename World => wv
        obtain ⟨j, s, hj, hj2, rfl, hrv, hqv, hls, hbv⟩ := hrel
        by_cases hlt2 : j < n ∧ j < 200
        · obtain ⟨hj3, hj4⟩ := hlt2
          obtain ⟨o, rfl, hdl, hcl⟩ := h13.at_ (by omega)
          obtain ⟨x0, x1, x2, e0, e1, e2, r1, r2, m1, m2, m3, m4⟩ := HF.out j hj3
          have hd1w := H1L.out (by omega)
          have f0 := hcl j 0 hj3 (by omega)
          have f1 := hcl j 1 hj3 (by omega)
          have f2 := hcl j 2 hj3 (by omega)
          rw [e0] at f0
          rw [e1] at f1
          rw [e2] at f2
          have q0 : wv.cell? ⟨d1, o + j * 3, none⟩ = some (.int .u8 x0) := (hbv.cell (p := ⟨d1, o + j * 3, none⟩) hd1w).trans ((hB3.cell (p := ⟨d1, o + j * 3, none⟩) hd1w).symm.trans f0)
          have q1 : wv.cell? ⟨d1, o + j * 3 + 1, none⟩ = some (.int .i64 x1) := (hbv.cell (p := ⟨d1, o + j * 3 + 1, none⟩) hd1w).trans ((hB3.cell (p := ⟨d1, o + j * 3 + 1, none⟩) hd1w).symm.trans f1)
          have q2 : wv.cell? ⟨d1, o + j * 3 + 2, none⟩ = some (.int .i64 x2) := (hbv.cell (p := ⟨d1, o + j * 3 + 2, none⟩) hd1w).trans ((hB3.cell (p := ⟨d1, o + j * 3 + 2, none⟩) hd1w).symm.trans f2)
          clear hcl e0 e1 e2 f0 f1 f2
          have hT : Tri g d g' d' wv.heap.size (.int .u8 x0) (.int .i64 x1) (.int .i64 x2) w (wv.alloc (.cells #[.int .u8 x0, .int .i64 x1, .int .i64 x2] 41)) s s := by
            have hgl2 := hrv.lt
            have hgl3 := hqv.lt
            have hz := hb2.size
            refine ⟨?_, ?_, hbv.alloc hbv.size _, heap_alloc_new _ _, ?_, ?_, ?_, ?_, ?_, ?_, ?_, hls, hls⟩
            · exact hrv.keep (by simp) (Below.heap_alloc _ _ _ hgl2) (fun hd => Below.heap_alloc _ _ _ hd)
            · exact hqv.keep (by simp) (Below.heap_alloc _ _ _ hgl3) (fun hd => Below.heap_alloc _ _ _ hd)
            all_goals (have := hb1'.size; omega)
          have hbv2 : Below w.heap.size w (wv.alloc (.cells #[.int .u8 x0, .int .i64 x1, .int .i64 x2] 41)) := hT.b
          have HT := Lib.hid hT
          have hc0 := hT.cell0
          have hcs := hT.cells
          have hX := hcs.1
          have hX2 := hcs.2
          clear hT hcs
          go_upto_block 4 with fail
          go_cut [11] (fun s11 wx => s11 = .bool true ∧ ∃ s', Tri g d g' d' wv.heap.size (.int .u8 x0) (.int .i64 x1) (.int .i64 x2) w wx s' s')
          case first =>
            have h4 : x0 % 4 = 0 ∨ x0 % 4 = 1 ∨ x0 % 4 = 2 ∨ x0 % 4 = 3 := by omega
            rcases h4 with h4 | h4 | h4 | h4
            · have z0 : (x0 % 4 == 0) = true := by simp [h4]
              clear h4
              have hT := HT.out.drew
              go_wp2_with fail
              go_region_held3 (fun w' => w'.cell? ⟨wv.heap.size, 1, none⟩ = some (.int .i64 x1) ∧ w'.cell? ⟨wv.heap.size, 2, none⟩ = some (.int .i64 x2)) (exact Tri.cells (by assumption))
                (first
                  | (go_at_call 16; refine (tri_num x1 (by assumption)).mono ?_; rintro e wx ⟨rfl, hTx⟩)
                  | (go_at_call 17; refine (tri_qnum x1 (by assumption)).mono ?_; rintro e wx ⟨rfl, hTx⟩))
              all_goals (go_wp2_with fail; go_meet; exact ⟨rfl, _, hTx⟩)
            · have z0 : (x0 % 4 == 0) = false := by simp [h4]
              have z1 : (x0 % 4 == 1) = true := by simp [h4]
              clear h4
              have hT := HT.out.drew
              go_wp2_with fail
              go_region_held3 (fun w' => w'.cell? ⟨wv.heap.size, 1, none⟩ = some (.int .i64 x1) ∧ w'.cell? ⟨wv.heap.size, 2, none⟩ = some (.int .i64 x2)) (exact Tri.cells (by assumption))
                (first
                  | (go_at_call 18; refine (tri_text x1 x2 m3 m4 (by assumption)).mono ?_; rintro e wx ⟨rfl, hTx⟩)
                  | (go_at_call 19; refine (tri_qtext x1 x2 m3 m4 (by assumption)).mono ?_; rintro e wx ⟨rfl, hTx⟩))
              all_goals (go_wp2_with fail; go_meet; exact ⟨rfl, _, hTx⟩)
            · have z0 : (x0 % 4 == 0) = false := by simp [h4]
              have z1 : (x0 % 4 == 1) = false := by simp [h4]
              have z2 : (x0 % 4 == 2) = true := by simp [h4]
              clear h4
              have hT := HT.out
              go_wp2_with fail
              refine (tri_take x1 hT).mono ?_
              rintro e wx ⟨vx, rfl, hox, hzx, hTx⟩
              have hX := hTx.cells.1
              go_wp2_with fail
              refine (tri_qtake x1 hTx).mono ?_
              rintro e wy ⟨vy, rfl, hoy, hgy, hTy⟩
              have hbase : w.heap.size ≤ (wv.alloc (.cells #[.int .u8 x0, .int .i64 x1, .int .i64 x2] 41)).heap.size := hT.b.size
              have hgb := hT.r.lt
              have hgb' := hT.q.lt
              have hXb := (Array.getElem?_eq_some_iff.1 hT.x).1
              generalize hbs : (wv.alloc (.cells #[.int .u8 x0, .int .i64 x1, .int .i64 x2] 41)).heap.size = bse at *
              have hoxy : Own 5 wy bse vx (takeS x1 s).1 := hox.kept hgy (by
                cases hv : vx.ownBlock with
                | none => exact .inl rfl
                | some k => exact .inr (fun e => by have := (hox.block k hv).1; injection e with e; omega))
              have HBS := Lib.hid hbs
              clear hbs
              obtain ⟨bx, _, hsx⟩ := hoxy.shows
              obtain ⟨by_, _, hsy⟩ := hoy.shows
              generalize hG : (takeS x1 s).1 = G at *
              have HG := Lib.hid hG
              clear hG
              obtain ⟨A2, c2, rfl, _⟩ := hoxy.form
              go_wp2_with fail
              refine (same_yes _ vy G bx by_ _ hsx hsy).mono ?_
              rintro e w' ⟨rfl, rfl⟩
              have hGl : G.length ≤ maxLen := by have := hsx.lens; omega
              go_wp2_with fail
              go_loopw [13] (fun i wz => ∃ (q : Nat) (m : List UInt8), q ≤ G.length ∧ i = .int .i64 q ∧ m.length = G.length ∧ Own 5 wz bse (.slice A2 G.length c2) m ∧ Tri g d g' d' wv.heap.size (.int .u8 x0) (.int .i64 x1) (.int .i64 x2) w wz (takeS x1 s).2 (takeS x1 s).2) (fun i _ => G.length - (intOf i).toNat)
              case atStart => exact ⟨0, G, Nat.zero_le _, rfl, rfl, hoxy, hTy⟩
              case round =>
                rename World => wz
                obtain ⟨q, m', hq, rfl, hml', hoz, hTz⟩ := hrel
                by_cases hlt3 : q < G.length
                · obtain ⟨b, rfl, hbb, hbl, hfz, hcl⟩ := hoz.at_ (by omega)
                  have hcc : wz.cell? ⟨b, q, none⟩ = some (.int .u8 (m'[q]'(by omega)).toNat) := hcl q (by omega)
                  have HTz := Lib.hid hTz
                  unfold maxLen at hGl
                  clear hcl hTz
                  go_wp2_with fail
                  go_roundw
                  case rel =>
                    have hTz := HTz.out
                    refine ⟨q + 1, m'.set q 0, by omega, by go_num, by rw [List.length_set]; exact hml', hoz.set_ hml' q 0 _ rfl, hTz.set_ b q _ (by omega) (by omega) (by omega) (by omega) (by omega) (by omega)⟩
                  case measure => simp [intOf]; omega
                · go_wp2_with fail
                  go_meet
                  exact ⟨rfl, _, hTz⟩
            · have z0 : (x0 % 4 == 0) = false := by simp [h4]
              have z1 : (x0 % 4 == 1) = false := by simp [h4]
              have z2 : (x0 % 4 == 2) = false := by simp [h4]
              clear h4
              have hT := HT.out
              go_wp2_with fail
              go_meet
              exact ⟨rfl, _, hT⟩
          case rest =>
            rename World => wx
            obtain ⟨rfl, s', hT'⟩ := hcut
            have hrT := hT'.r
            have hqT := hT'.q
            cases s' with
            | none =>
              have hk : wx.heap[g']? = some (.cells #[.slice none 0 0, .bool true] 47 (0, 0)) := hqT
              have k0 : wx.cell? ⟨g', 0, none⟩ = some (.slice none 0 0) := by rw [cell_of_row wx _ _ _ 47 (0, 0) hk]; rfl
              have k1 : wx.cell? ⟨g', 1, none⟩ = some (.bool true) := by rw [cell_of_row wx _ _ _ 47 (0, 0) hk]; rfl
              clear hk
              go_wp2_with fail
              go_quiet ((first
                | (go_at_call 22; exact Calls.quiet_of_same ((left_none g d _ (by exact hrT)).mono fun _ _ ⟨a, b⟩ => ⟨a, b.symm⟩))
                | (go_at_call 23; exact Calls.quiet_of_same ((bad_yes' g d _ (by exact hrT)).mono fun _ _ ⟨a, b⟩ => ⟨a, b.symm⟩))))
              go_wp2_with fail
              go_roundw
              case rel => exact ⟨j + 1, none, by omega, by omega, by go_num, by exact hrT, by exact hqT, by simp [lenS], below_drewN hT'.b _⟩
              case measure => simp [intOf]; omega
            | some l =>
              obtain ⟨A3, c3, hk, _⟩ := id hqT
              have k0 : wx.cell? ⟨g', 0, none⟩ = some (.slice A3 l.length c3) := by rw [cell_of_row wx _ _ _ 47 (0, 0) hk]; rfl
              have k1 : wx.cell? ⟨g', 1, none⟩ = some (.bool false) := by rw [cell_of_row wx _ _ _ 47 (0, 0) hk]; rfl
              clear hk
              go_wp2_with fail
              go_quiet ((first
                | (go_at_call 22; exact Calls.quiet_of_same ((left_some g d l _ (by exact hrT)).mono fun _ _ ⟨a, b⟩ => ⟨a, b.symm⟩))
                | (go_at_call 23; exact Calls.quiet_of_same ((bad_no g d l _ (by exact hrT)).mono fun _ _ ⟨a, b⟩ => ⟨a, b.symm⟩))))
              go_wp2_with fail
              go_roundw
              case rel => exact ⟨j + 1, some l, by omega, by omega, by go_num, by exact hrT, by exact hqT, hT'.ls, below_drewN hT'.b _⟩
              case measure => simp [intOf]; omega
        · by_cases hj3 : j < n
          · have hj4 : ¬ j < 200 := fun h => hlt2 ⟨hj3, h⟩
            clear hlt2
            go_wp2_with (go_at_call 13; refine (head_any _).mono ?_; rintro e w9 ⟨rfl, hb9⟩)
            go_ret
            exact ⟨rfl, hbv.trans (hb9.mono hbv.size)⟩
          · clear hlt2
            go_wp2_with (go_at_call 13; refine (head_any _).mono ?_; rintro e w9 ⟨rfl, hb9⟩)
            go_ret
            exact ⟨rfl, hbv.trans (hb9.mono hbv.size)⟩
set_option maxRecDepth 100000 in
theorem reads_lifted (os : Os) (started : os.Started) (H : Type) (enc : TypeId × Value → H) :
    ReturnsInHanded {} Try.checked os 4 .any (Rows.octetReadsSpec.pre6 enc Try.prog Try.f4 Rows.octetReadsRow.domain false) (Rows.octetReadsSpec.post enc Try.prog Try.f4 false true false false) := by
  refine returnsInHanded_of_change_sized (C := Try.checked) own started (by kernel_rfl) Try.func4
    (ChangeSpec.witness6 (enc := enc) (C := Try.checked) false ⟨#[], #[.slice none 0 0, .slice none 0 0], []⟩ 8 (by kernel_rfl) (by kernel_rfl) (by kernel_rfl) (by kernel_rfl)) ?_
  intro W base args ds gs before hval0 hW hcnd hsz0 _
  have hval : ∀ (j : Nat) t v, Try.f4.params[j]? = some t → args[j]? = some v → Value.okWide Try.prog W .any base t v := hval0
  have hsz : (DataW.weightsEach Try.prog (Try.f4.params.toList ++ Rows.octetReadsSpec.plain.varTypes Try.prog) (ds ++ gs)).all (· ≤ reachBytes) = true := hsz0
  have hW' := hW
  obtain ⟨p, q, hA0, hV, rfl, hfz, hnd⟩ := hW
  have hA : DataW.TrodAll enc Try.prog W 0 (fun _ => true) true Try.f4.params.toList args.toList ds p := hA0
  rw [Try.params4] at hA hval hsz
  obtain ⟨v0, vs0, d0, ds0, p0, q0, hargs, rfl, rfl, h0, r0⟩ := trodAll_cons hA
  obtain ⟨v1, vs1, d1, ds1, p1, q1, rfl, rfl, rfl, h1, r1⟩ := trodAll_cons r0
  obtain ⟨rfl, rfl, rfl⟩ := trodAll_nil r1
  obtain rfl : args = #[v0, v1] := by cases args; simp_all
  obtain ⟨rfl, rfl⟩ := trodVars_none hV
  obtain ⟨A0, c0, b0, B, rfl, s0, l0⟩ := open_bytes Try.underlying22 Try.underlying5 (by kernel_rfl) bytes5 (hval 0 22 v0 rfl rfl) h0 hsz 0 rfl rfl
  obtain ⟨A1, n, c1, b1, F, rfl, s1, l1, hF⟩ := open_structs Try.underlying35 Try.underlying41 (by kernel_rfl) (by kernel_rfl) (by decide) (hval 1 35 v1 rfl rfl) h1 hsz 1 rfl rfl
  have hAsk := asks_ok Try.underlying41 hF
  rw [bytes41] at l1
  have k0 := h0
  have k1 := h1
  have lt0 : ∀ x ∈ p0, x.block < W.heap.size := by obtain ⟨m, hm⟩ := k0; exact DataW.trod_lt m _ _ _ hm
  have lt1 : ∀ x ∈ p1, x.block < W.heap.size := by obtain ⟨m, hm⟩ := k1; exact DataW.trod_lt m _ _ _ hm
  clear hA0 hval0
  refine (reads_walk A0 A1 c0 c1 n B F b0 b1 W s0 s1 hAsk (by omega) (by omega)).mono fun e W' ⟨he, bel⟩ => ?_
  subst he
  exact ⟨_, rfl, _, _, _, [], _, [], hW', trodAll_mk1 (shut_bool Try.underlying4 _), (trodAll_cons_mk (Below.trod laidOut (by kernel_rfl) (of_decide_eq_true (by kernel_rfl)) k0 bel lt0) (trodAll_cons_mk (Below.trod laidOut (by kernel_rfl) (of_decide_eq_true (by kernel_rfl)) k1 bel lt1) trodAll_mk0)), rfl, bel.frame _, fun h => by cases h⟩

theorem reads_over : Rows.octetReadsRow.holds Try.pinned (OpenSpec.ofChange Rows.octetReadsSpec) :=
  OpenClaim.holds_of_wide 4 Try.f4 rfl rfl rfl rfl rfl rfl rfl ⟨rfl, rfl, rfl, rfl, rfl⟩ rfl rfl rfl rfl rfl (by kernel_rfl) Try.func4 (by kernel_rfl)
    (of_decide_eq_true (by kernel_rfl)) (by unfold Func.isWrapper; first | (rw [if_pos (by decide +kernel)]; kernel_rfl) | (rw [if_neg (by decide +kernel)]; exact ⟨rfl, rfl⟩))
    (fun os started H enc _ => reads_lifted os started H enc)

theorem octetReads_holds : Rows.OctetReadsSaid := reads_over
#print axioms octetReads_holds
end Go.Proofs.Ytfdbfiaijaeklaa
