/-
  The contracts of the laws' great and head, and of the document's own Same for rows of records.
  Conditions: the table reads as the program lays it.
-/
import Derived.Test.YtmpcddljgcckcaaDoorRcC
namespace Go.Proofs.YtmpcddljgcckcaaDoor
open Go.RowKit
open Crc (sealD okSeal sealD_length sealD_ok okSeal_iff openD Tab)
set_option linter.unusedVariables false
set_option linter.unusedSimpArgs false

instance : DecidableEq Rc := fun a b =>
  if h1 : a.k = b.k then
    if h2 : a.p = b.p then isTrue (by cases a; cases b; simp_all) else isFalse (fun e => h2 (by rw [e]))
  else isFalse (fun e => h1 (by rw [e]))

theorem rcGuard : Tryd.prog.eqGuardType Tryd.prog.depth 33 = false := by kernel_rfl
theorem rcFields : Tryd.prog.underlying 33 = some (.struct (Tryd.prog.fieldsOf 33)) := by kernel_rfl
theorem rcHeld : Tryd.prog.stoodInHeld 33 = false := by kernel_rfl
theorem rc_toList_ne {a b : ByteArray} (h : a ≠ b) : ¬ a.toList = b.toList := fun e => h (by rw [← str8_sb a, ← str8_sb b, ← sb_toList, ← sb_toList, e])
theorem rc_toList_beq (a b : ByteArray) : (a.toList == b.toList) = decide (a = b) := by
  by_cases h : a = b
  · subst h; simp
  · rw [decide_eq_false h]
    simpa using rc_toList_ne h
theorem run_eq_rc (f g : Rc) (w : World) : (Op.equalIn 10000 33 (.agg #[.int .u8 f.k.toNat, .string f.p]) (.agg #[.int .u8 g.k.toNat, .string g.p])).run Tryd.prog w = .ok (decide (f = g)) w := by
  rw [run_equalIn_agg w 9999 33 _ _ rcFields rcHeld]
  have hm : (Tryd.prog.fieldsOf 33).toList.map (fun f => (f.type, f.offset, f.name == "_")) = [(5, 0, false), (9, 1, false)] := by kernel_rfl
  generalize (Tryd.prog.fieldsOf 33).toList = fs at hm ⊢
  obtain ⟨f0, t0, rfl, p0, hm⟩ := List.map_eq_cons_iff.1 hm
  obtain ⟨f1, t1, rfl, p1, hm⟩ := List.map_eq_cons_iff.1 hm
  obtain rfl : t1 = [] := List.map_eq_nil_iff.1 hm
  simp only [Prod.mk.injEq] at p0 p1
  obtain ⟨a0, b0, c0⟩ := p0
  obtain ⟨a1, b1, c1⟩ := p1
  have d0 : ¬ f0.name = "_" := by simpa using c0
  have d1 : ¬ f1.name = "_" := by simpa using c1
  have e2 : ∀ x y : Nat, (Op.equalIn 9999 5 (.int .u8 (x : Int)) (.int .u8 (y : Int))).run Tryd.prog w = .ok ((x : Int) == (y : Int)) w := fun x y => run_equalIn_int w 9998 5 .u8 .u8 _ _ Tryd.underlying5
  have e4 : ∀ x y : ByteArray, (Op.equalIn 9999 9 (.string x) (.string y)).run Tryd.prog w = .ok (decide (x = y)) w := fun x y => by rw [← rc_toList_beq]; exact run_equalIn_string w 9998 9 _ _ Tryd.underlying9
  obtain ⟨ft, fp⟩ := f
  obtain ⟨gt, gp⟩ := g
  have hft : ∀ x y : UInt8, ((x.toNat : Int) == (y.toNat : Int)) = decide (x = y) := fun x y => by
    rw [Bool.eq_iff_iff]
    simp only [beq_iff_eq, decide_eq_true_eq]
    constructor
    · intro h; exact UInt8.toNat_inj.1 (by omega)
    · rintro rfl; rfl
  have hd : decide ((⟨ft, fp⟩ : Rc) = ⟨gt, gp⟩) = (decide (ft = gt) && decide (fp = gp)) := by
    rw [Bool.eq_iff_iff]
    simp
  rw [hd]
  by_cases k4 : ft = gt
  · by_cases k7 : fp = gp
    · simp [Op.eqFields, part, a0, b0, d0, a1, b1, d1, e2, e4, k4, k7]
    · simp [Op.eqFields, part, a0, b0, d0, a1, b1, d1, e2, e4, k4, k7]
  · have := hft ft gt
    simp [k4] at this
    simp [Op.eqFields, part, a0, b0, d0, e2, e4, k4, this]

set_option maxRecDepth 100000 in
set_option maxHeartbeats 4000000 in
theorem rsame_any (A1 A2 : Option Addr) (c1 c2 d1 d2 : Nat) (l m : List Rc) (W : World) (hs1 : ShowsG rcC W d1 (.slice A1 l.length c1) l) (hs2 : ShowsG rcC W d2 (.slice A2 m.length c2) m) (hb : l.length ≤ 17592186044416) (hb2 : m.length ≤ 17592186044416) :
    Calls Tryd.prog 15 #[.slice A1 l.length c1, .slice A2 m.length c2] W fun e w' => e = .returned (.bool (decide (l = m))) ∧ Below W.heap.size W w' := by
  obtain ⟨R, hR⟩ : ∃ R, R = decide (l = m) := ⟨_, rfl⟩
  rw [← hR]
  have HR := Lib.hid hR
  clear hR
  by_cases hlen : l.length = m.length
  · have e3 : ((l.length : Int) != (m.length : Int)) = false := by simp; omega
    have HLEN := Lib.hid hlen
    clear hlen
    go_enter Tryd.func15, Tryd.ntmps15
    go_wp2_with fail
    go_loopw [5] (fun i wr => ∃ j q : Nat, j ≤ l.length ∧ i = .int .i64 j ∧ wr = W.drewN q ∧ Hid (l.take j = m.take j)) (fun i _ => l.length - (intOf i).toNat)
    case atStart => exact ⟨0, 0, Nat.zero_le _, rfl, rfl, Lib.hid rfl⟩
    case round =>
      obtain ⟨j, q, hj, rfl, rfl, hsame⟩ := hrel
      by_cases hlt : j < l.length
      · have hlt2 : j < m.length := by have := HLEN.out; omega
        obtain ⟨o, rfl, _, hcl⟩ := hs1.at_ (by omega)
        obtain ⟨o', rfl, _, hcm⟩ := hs2.at_ (by omega)
        obtain ⟨p0, p1⟩ := rc_cell hcl hlt
        obtain ⟨q0, q1⟩ := rc_cell hcm hlt2
        have hjl : (j : Int) < (l.length : Int) := by omega
        have hjm : (j : Int) < (m.length : Int) := by omega
        have hG := rcGuard
        by_cases heq : l[j] = m[j]
        · have HS := Lib.hid (show l.take (j + 1) = m.take (j + 1) by rw [List.take_succ_eq_append_getElem hlt, List.take_succ_eq_append_getElem hlt2, hsame.out, heq])
          have hE2 := run_eq_rc l[j] m[j]
          rw [decide_eq_true heq] at hE2
          clear hcl hcm heq
          generalize l[j] = f at *
          generalize m[j] = g at *
          obtain ⟨ft, fp⟩ := f
          obtain ⟨gt, gp⟩ := g
          simp only [] at hE2 p0 p1 q0 q1
          go_wp2_with fail
          go_quiet (fail)
          go_wp2_with fail
          go_roundw
          case rel => exact ⟨j + 1, _, by omega, by go_num, rfl, HS⟩
          case measure => simp [intOf]; omega
        · have hfin : R = false := by
            rw [HR.out]
            simp
            rintro rfl
            exact heq rfl
          have hE2 := run_eq_rc l[j] m[j]
          rw [decide_eq_false heq] at hE2
          clear hcl hcm heq
          generalize l[j] = f at *
          generalize m[j] = g at *
          obtain ⟨ft, fp⟩ := f
          obtain ⟨gt, gp⟩ := g
          simp only [] at hE2 p0 p1 q0 q1
          have HF := Lib.hid hfin
          clear hfin
          go_wp2_with fail
          go_quiet (fail)
          go_wp2_with fail
          go_ret
          exact ⟨by first | rfl | (rw [HF.out]; rfl), below_drewN (below_drewN (Below.refl _ _) _) _⟩
      · have hjl : ¬ (j : Int) < (l.length : Int) := by omega
        have hfin : R = true := by
          rw [HR.out]
          have := hsame.out
          rw [List.take_of_length_le (by omega), List.take_of_length_le (by have := HLEN.out; omega)] at this
          simpa using this
        have HF := Lib.hid hfin
        clear hfin
        go_wp2_with fail
        go_ret
        exact ⟨by first | rfl | (rw [HF.out]; rfl), below_drewN (Below.refl _ _) _⟩
  · have e3 : ((l.length : Int) != (m.length : Int)) = true := by simp; omega
    have hfin : R = false := by
      rw [HR.out]
      simp
      rintro rfl
      exact hlen rfl
    have HF := Lib.hid hfin
    clear hfin hlen
    go_enter Tryd.func15, Tryd.ntmps15
    go_wp2_with fail
    go_ret
    exact ⟨by first | rfl | (rw [HF.out]; rfl), Below.refl _ _⟩

/-- What great says. -/
def RGreatSaid (l : List Rc) (w : World) (e : Ending) (w' : World) : Prop := ∃ b : Bool, e = .returned (.bool b) ∧ w' = w ∧ (b = false → l.length ≤ 40 ∧ ∀ r ∈ l, r.p.size ≤ 4000)

set_option maxRecDepth 100000 in
set_option maxHeartbeats 4000000 in
theorem rgreat_any (A : Option Addr) (c d : Nat) (l : List Rc) (w : World) (h : ShowsG rcC w d (.slice A l.length c) l) (hl : l.length ≤ 17592186044416) :
    Calls Tryd.prog 9 #[.slice A l.length c] w (RGreatSaid l w) := by
  go_enter Tryd.func9, Tryd.ntmps9
  go_wp2_with fail
  go_loopw [3, 4] (fun x i wr => ∃ (j L : Nat), i = .int .i64 j ∧ x = .int .i64 L ∧ L ≤ 4000 ∧ j ≤ l.length ∧ j ≤ 40 ∧ wr = w ∧ Hid (∀ r ∈ l.take j, r.p.size ≤ 4000)) (fun _ i _ => l.length - (intOf i).toNat)
  case atStart => exact ⟨0, 4000, rfl, rfl, Nat.le_refl _, Nat.zero_le _, by omega, rfl, Lib.hid (by simp)⟩
  case round =>
    obtain ⟨j, L, rfl, rfl, hL, hj, h40, rfl, HP⟩ := hrel
    by_cases hlt : j < l.length
    · have h1 : (j : Int) < (l.length : Int) := by omega
      by_cases hlt4 : j < 40
      · have h2 : (j : Int) < 40 := by omega
        obtain ⟨o, rfl, _, hcl⟩ := h.at_ (by omega)
        obtain ⟨p0, p1⟩ := rc_cell hcl hlt
        obtain ⟨r, hr⟩ : ∃ r, r = l[j] := ⟨_, rfl⟩
        have HTK := Lib.hid (show l.take (j + 1) = l.take j ++ [r] by rw [List.take_succ_eq_append_getElem hlt, hr])
        rw [← hr] at p0 p1
        clear hr hcl
        obtain ⟨K, p⟩ := r
        simp only [] at p0 p1
        by_cases hbig : L < p.size
        · have h3 : (L : Int) < (p.size : Int) := by omega
          go_wp2_with fail
          go_ret
          exact ⟨true, rfl, rfl, fun h => by cases h⟩
        · have h3 : ¬ (L : Int) < (p.size : Int) := by omega
          obtain ⟨L', hL'⟩ : ∃ L' : Nat, L' + p.size = L := ⟨L - p.size, by omega⟩
          have h4 : (L : Int) - (p.size : Int) = (L' : Int) := by omega
          have HPS := Lib.hid (show p.size ≤ 4000 ∧ L' ≤ 4000 by omega)
          clear hL'
          go_wp2_with fail
          go_roundw
          case rel =>
            refine ⟨j + 1, L', by go_num, rfl, HPS.out.2, by omega, by omega, by trivial, Lib.hid ?_⟩
            intro x hx
            rw [HTK.out] at hx
            rcases List.mem_append.1 hx with hx | hx
            · exact HP.out x hx
            · simp only [List.mem_singleton] at hx
              subst hx
              exact HPS.out.1
          case measure => simp [intOf]; omega
      · have h2 : ¬ (j : Int) < 40 := by omega
        have hb : (40 : Int) < (l.length : Int) := by omega
        go_wp2_with fail
        go_ret
        exact ⟨true, rfl, rfl, fun h => by cases h⟩
    · have h1 : ¬ (j : Int) < (l.length : Int) := by omega
      have hb : ¬ (40 : Int) < (l.length : Int) := by omega
      go_wp2_with fail
      go_ret
      refine ⟨false, rfl, rfl, fun _ => ⟨by omega, ?_⟩⟩
      have := HP.out
      rw [List.take_of_length_le (by omega)] at this
      exact this

/-! ### Put and Scan in the laws' words -/
theorem rput_ok (A : Option Addr) (c d0 : Nat) (l : List Rc) (w : World) (hT : Tab w) (h : ShowsG rcC w d0 (.slice A l.length c) l) (hn : l.length ≤ 1000) (hp : ∀ r ∈ l, r.p.size ≤ 65536) :
    Calls Tryd.prog 11 #[.slice A l.length c] w fun e w' => e = .returned (.tuple #[.string (str8 (recsB l)), .int .i64 0]) ∧ Below w.heap.size w w' := by
  refine (rput_any A c d0 l w hT h hn fun r hr => Nat.le_trans (hp r hr) (by omega)).mono ?_
  rintro e w' ⟨rfl, hb⟩
  rw [putR_ok hp]
  exact ⟨rfl, hb⟩
theorem rscan_eq (s : ByteArray) (L : List Rc) (n st : Nat) (w : World) (hT : Tab w) (hs : s.size ≤ 1000000) (h : scanR (sb s) = (L, n, st)) :
    Calls Tryd.prog 13 #[.string s] w fun e w' => ∃ A c, e = .returned (.tuple #[.slice A L.length c, .int .i64 n, .int .u8 st]) ∧ OwnG rcC 33 w' w.heap.size (.slice A L.length c) L ∧ Below w.heap.size w w' := by
  refine (rscan_any s w hT hs).mono ?_
  rintro e w' ⟨v, rfl, ho, hb⟩
  rw [h] at ho ⊢
  obtain ⟨A, c, rfl, _, _⟩ := ho.form
  exact ⟨A, c, rfl, ho, hb⟩

/-! ### the head -/
def r7 : Rc := ⟨7, ⟨#[97, 98]⟩⟩
theorem scan_r7 : scanR (recsB [r7]) = ([r7], 15, 0) := by
  have := scan_put [r7] [] (by intro r hr; simp at hr; subst hr; show 2 ≤ 65536; omega)
  rw [List.append_nil, scanR_nil] at this
  rw [this]
  simp [recsB_cons, recsB_nil, recB_length]
  rfl
theorem scan_z9 : scanR [0, 0, 0, 0, 0, 0, 0, 0, 0] = ([], 0, 2) := by
  have h : stR [0, 0, 0, 0, 0, 0, 0, 0, 0] = 2 := by decide +kernel
  rw [scanR_stop (by simp) (by rw [h]; decide), h]

set_option maxRecDepth 100000 in
set_option maxHeartbeats 4000000 in
theorem rhead_any (w : World) (hT : Tab w) : Calls Tryd.prog 10 #[] w fun e w' => e = .returned (.bool true) ∧ Below w.heap.size w w' := by
  have HT := Lib.hid (fun w' (hb : Below w.heap.size w w') => hT.below hb hT.1)
  have hb1 : Below w.heap.size w (w.alloc (.cells #[.int .u8 7, .string ⟨#[97, 98]⟩] 33)) := (Below.refl _ _).alloc (Nat.le_refl _) _
  have hsh : ShowsG rcC (w.alloc (.cells #[.int .u8 7, .string ⟨#[97, 98]⟩] 33)) w.heap.size (.slice (some ⟨w.heap.size, 0, none⟩) 1 1) [r7] := ShowsG.lit (C := rcC) [r7] (by simp [Code.all, rcC, u8c, r7]) (by simp [maxLen])
  have HPUT := Lib.hid (rput_ok (some ⟨w.heap.size, 0, none⟩) 1 w.heap.size [r7] _ (HT.out _ hb1) hsh (by simp) (by intro r hr; simp at hr; subst hr; show 2 ≤ 65536; omega))
  have hsz : (str8 (recsB [r7])).size = 15 := by rw [str8_size, recsB_cons, recsB_nil, List.append_nil, recB_length]; rfl
  have HSC := Lib.hid (fun W (hT : Tab W) => rscan_eq (str8 (recsB [r7])) [r7] 15 0 W hT (by rw [hsz]; omega) scan_r7)
  have HSC9 := Lib.hid (fun W (hT : Tab W) => rscan_eq ⟨#[0, 0, 0, 0, 0, 0, 0, 0, 0]⟩ [] 0 2 W hT (by decide) scan_z9)
  have HB1 := Lib.hid hb1
  have hzs : w.heap.size ≤ (w.alloc (.cells #[.int .u8 7, .string ⟨#[97, 98]⟩] 33)).heap.size := by simp
  clear hsh hT
  generalize str8 (recsB [r7]) = S at *
  go_enter Tryd.func10, Tryd.ntmps10
  go_wp2_with fail
  refine HPUT.out.mono ?_
  rintro e w1 ⟨rfl, hb⟩
  have hw1 : Below w.heap.size w w1 := HB1.out.trans (hb.mono hzs)
  go_wp2_with fail
  with_reducible refine (HSC.out w1 (HT.out _ hw1)).mono ?_
  rintro e w2 ⟨A2, c2, rfl, ho2, hb2⟩
  have hw2 : Below w.heap.size w w2 := hw1.trans (hb2.mono hw1.size)
  go_wp2_with fail
  with_reducible refine (HSC9.out w2 (HT.out _ hw2)).mono ?_
  rintro e w3 ⟨A3, c3, rfl, ho3, hb3⟩
  have hw3 : Below w.heap.size w w3 := hw2.trans (hb3.mono hw2.size)
  obtain ⟨b, rfl, _, _, _, hcl⟩ := (ho2.below hb3 (Nat.le_refl _)).at_ (by simp)
  have x0 : w3.cell? ⟨b, 0, none⟩ = some (.int .u8 7) := hcl 0 (by simp) 0 (by decide)
  have x1 : w3.cell? ⟨b, 1, none⟩ = some (.string ⟨#[97, 98]⟩) := hcl 0 (by simp) 1 (by decide)
  have hG := rcGuard
  have hE : ∀ W, (Op.equalIn 10000 33 (.agg #[.int .u8 7, .string ⟨#[97, 98]⟩]) (.agg #[.int .u8 7, .string ⟨#[97, 98]⟩])).run Tryd.prog W = .ok true W := fun W => by
    have := run_eq_rc r7 r7 W
    rw [decide_eq_true rfl] at this
    exact this
  clear hcl ho2 ho3 hb1 HT HSC HSC9 HPUT
  go_wp2_with fail
  go_ret
  exact ⟨rfl, hw3⟩

end Go.Proofs.YtmpcddljgcckcaaDoor
