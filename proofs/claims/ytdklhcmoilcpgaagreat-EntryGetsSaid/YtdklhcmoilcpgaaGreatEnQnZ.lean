/-
  Texts, together: EnQn, EnRa, EnRb, EnRc.
  Conditions: none but sizes.
-/
import Derived.Test.YtdklhcmoilcpgaaGreatEnPZ
import Derived.Test.YtdklhcmoilcpgaaGreatEnBZ
import Derived.Test.YtdklhcmoilcpgaaGreatPrRZ
import Derived.Deep.RegionHeld3
import Derived.Test.YtdklhcmoilcpgaaGreatEnE0Z
import Derived.Test.YtdklhcmoilcpgaaGreatRef04AZ
import Derived.Test.YtdklhcmoilcpgaaGreatEnFZ
set_option linter.unusedVariables false
set_option linter.unusedSimpArgs false
namespace Go.Proofs.YtdklhcmoilcpgaaGreat
open Go.RowKit
set_option maxHeartbeats 4000000 in
theorem qqname_any (s : ByteArray) (w : World) (hs : s.size ≤ 140737488355328) : Calls Tryz.prog 58 #[.string s] w fun e w' => e = .returned (.bool (qnOK s)) ∧ w' = w := by
  obtain ⟨R, hR⟩ : ∃ R, R = qnOK s := ⟨_, rfl⟩
  rw [← hR]
  have HR := Lib.hid hR
  clear hR
  have hl := sb_length s
  have HL := Lib.hid hl
  have HB := Lib.hid hs
  clear hl
  go_enter Tryz.func58, Tryz.ntmps58
  go_wp2_with fail
  go_loopw [3] (fun i wr => ∃ j : Nat, j ≤ s.size ∧ i = .int .i64 j ∧ wr = w ∧ ∀ k (h : k < (sb s).length), k < j → qcOK (sb s)[k] = true) (fun i _ => s.size - (intOf i).toNat)
  case atStart => exact ⟨0, by omega, rfl, rfl, fun k _ h => absurd h (by omega)⟩
  case round =>
    obtain ⟨j, hj, rfl, rfl, hok⟩ := hrel
    have hl := HL.out
    by_cases hlt : j < s.size
    · have b1 : (j : Int) < (s.size : Int) := by omega
      have b3 : IntKind.i64.wrap ((j : Int) + 1) = (j : Int) + 1 := i64_id _ (by omega) (by omega)
      have e1 : (sb s)[j]'(by omega) = s[j] := rfl
      by_cases hb : qcOK s[j] = true
      · have HS := Lib.hid (show ∀ k (h : k < (sb s).length), k < j + 1 → qcOK (sb s)[k] = true from fun k hk hkj => by
          by_cases c : k < j
          · exact hok k hk c
          · obtain rfl : k = j := by omega
            rw [e1]; exact hb)
        have t1 : decide ((s[j].toNat : Int) ≤ 32) = false := by simp [qcOK] at hb; simp; omega
        have t2 : decide ((127 : Int) ≤ (s[j].toNat : Int)) = false := by simp [qcOK] at hb; simp; omega
        clear hb hok e1 hl
        go_wp2_with fail
        go_roundw
        case rel => exact ⟨j + 1, by omega, by go_num, trivial, HS.out⟩
        case measure => simp [intOf]; omega
      · have hf : R = false := HR.out.trans (qnOK_false fun h => hb (by have := h.2.2 j (by omega); rwa [e1] at this))
        by_cases h33 : s[j].toNat ≤ 32
        case' pos => have t1 : decide ((s[j].toNat : Int) ≤ 32) = true := by simp; omega
        case' neg =>
          have t1 : decide ((s[j].toNat : Int) ≤ 32) = false := by simp; omega
          have t2 : decide ((127 : Int) ≤ (s[j].toNat : Int)) = true := by simp [qcOK] at hb; simp; omega
        all_goals
          clear hb hok e1 hl h33
          go_wp2_with fail
          go_ret
          first | exact ⟨rfl, rfl⟩ | exact ⟨by rw [hf]; rfl, rfl⟩
    · obtain rfl : j = s.size := by omega
      have b1 : ¬ (s.size : Int) < (s.size : Int) := by omega
      by_cases h0 : s.size = 0
      · have hf : R = false := HR.out.trans (qnOK_false (by omega))
        have t1 : decide ((1 : Int) ≤ (s.size : Int)) = false := by simp; omega
        clear hok hl h0
        go_wp2_with fail
        go_ret
        first | exact ⟨rfl, rfl⟩ | exact ⟨by rw [hf]; rfl, rfl⟩
      have t1 : decide ((1 : Int) ≤ (s.size : Int)) = true := by simp; omega
      by_cases h40 : 40 < s.size
      · have hf : R = false := HR.out.trans (qnOK_false (by omega))
        have t2 : decide ((s.size : Int) ≤ 40) = false := by simp; omega
        clear hok hl h0 h40
        go_wp2_with fail
        go_ret
        first | exact ⟨rfl, rfl⟩ | exact ⟨by rw [hf]; rfl, rfl⟩
      have t2 : decide ((s.size : Int) ≤ 40) = true := by simp; omega
      have hf : R = true := HR.out.trans ((qnOK_iff _).2 ⟨by omega, by omega, fun k hk => hok k hk (by omega)⟩)
      clear hok hl h0 h40
      go_wp2_with fail
      go_ret
      first | exact ⟨rfl, rfl⟩ | exact ⟨by rw [hf]; rfl, rfl⟩
end Go.Proofs.YtdklhcmoilcpgaaGreat
namespace Go.Proofs.YtdklhcmoilcpgaaGreat
open Go.RowKit
set_option maxRecDepth 100000
theorem results_tmp5 {fn : Func} {t u v x y : Tmp} (h : fn.results = #[.tmp t, .tmp u, .tmp v, .tmp x, .tmp y]) (tmps : Array Value) (P : Program) (w : World) :
  (results fn tmps).run P w = .ok (.tuple #[tmps.getD t undef, tmps.getD u undef, tmps.getD v undef, tmps.getD x undef, tmps.getD y undef]) w := by
 simp [results, h]
set_option maxHeartbeats 2000000 in
theorem qrow_any (k : Nat) (w : World) : Calls Tryz.prog 23 #[.int .u8 k] w fun e w' => e = .returned (.tuple #[.bool (uName k), .bool (uNum k), .bool (uX k), .bool (uWork k), .bool (kindOK k)]) ∧ w' = w := by
 rcases kinds_cases k with rfl | rfl | rfl | rfl | rfl | rfl | rfl | rfl | rfl | h
 case inr.inr.inr.inr.inr.inr.inr.inr.inr =>
  obtain ⟨h1, h2, h3, h4, h5, h6, h7, h8, h9⟩ := h
  have e1 : uName k = false := decide_eq_false (by omega)
  have e2 : uNum k = false := decide_eq_false (by omega)
  have e3 : uX k = false := decide_eq_false (by omega)
  have e4 : uWork k = false := decide_eq_false (by omega)
  have e5 : kindOK k = false := decide_eq_false (by omega)
  rw [e1, e2, e3, e4, e5]
  clear e1 e2 e3 e4 e5
  have t1 : ((k : Int) == 1) = false := by simp; omega
  have t2 : ((k : Int) == 2) = false := by simp; omega
  have t3 : ((k : Int) == 3) = false := by simp; omega
  have t4 : ((k : Int) == 4) = false := by simp; omega
  have t5 : ((k : Int) == 5) = false := by simp; omega
  have t6 : ((k : Int) == 6) = false := by simp; omega
  have t7 : ((k : Int) == 7) = false := by simp; omega
  have t8 : ((k : Int) == 8) = false := by simp; omega
  have t9 : ((k : Int) == 9) = false := by simp; omega
  go_enter Tryz.func23, Tryz.ntmps23
  go_wp2_with fail
  (try simp only [Exit.inBlock, Exit.then])
  refine bodyPost_ret (results_tmp5 rfl _ _ _) rfl ?_
  exact ⟨rfl, rfl⟩
 all_goals
  go_enter Tryz.func23, Tryz.ntmps23
  go_wp2_with fail
  (try simp only [Exit.inBlock, Exit.then])
  refine bodyPost_ret (results_tmp5 rfl _ _ _) rfl ?_
  exact ⟨by first | rfl | (congr 2; decide +kernel), rfl⟩
theorem qid_any (n : Nat) (w : World) : Calls Tryz.prog 59 #[.int .u64 n] w fun e w' => e = .returned (.bool (msgOK n)) ∧ w' = w := by
 obtain ⟨b1, h1⟩ : ∃ b1, b1 = decide (1 ≤ n) := ⟨_, rfl⟩
 obtain ⟨b2, h2⟩ : ∃ b2, b2 = decide (n ≤ 1099511627776) := ⟨_, rfl⟩
 have e : msgOK n = (b1 && b2) := by rw [h1, h2]; unfold msgOK; rw [Bool.decide_and]
 rw [e]
 have t1 : decide ((1 : Int) ≤ (n : Int)) = b1 := by rw [h1, Bool.eq_iff_iff]; simp only [decide_eq_true_eq]; omega
 have t2 : decide ((n : Int) ≤ 1099511627776) = b2 := by rw [h2, Bool.eq_iff_iff]; simp only [decide_eq_true_eq]; omega
 clear e h1 h2
 cases b1
 all_goals
  go_enter Tryz.func59, Tryz.ntmps59
  go_wp2_with fail
  go_ret
  exact ⟨by first | rfl | (rw [t2]; rfl), rfl⟩
theorem qnumber_any (k n : Nat) (w : World) (hk : k ≤ 8) (hn : n < 18446744073709551616) :
  Calls Tryz.prog 24 #[.int .u64 n, .int .i64 k] w fun e w' => e = .returned (.string (str8 (be k n))) ∧ Below w.heap.size w w' := by
 have HN := Lib.hid (number_any k n w hk hn)
 go_enter Tryz.func24, Tryz.ntmps24
 go_wp2_with fail
 refine HN.out.mono ?_
 rintro e w1 ⟨v1, rfl, ho1, hb1⟩
 obtain ⟨g, _, hs1⟩ := ho1.shows
 have hcv := conv_at hs1
 clear ho1 hs1
 go_wp2_with fail
 go_ret
 exact ⟨rfl, hb1⟩
theorem qtext13_any (s : ByteArray) (w : World) (hs : s.size ≤ 255) :
  Calls Tryz.prog 25 #[.string s] w fun e w' => e = .returned (.string (str8 (be 1 s.size ++ sb s))) ∧ Below w.heap.size w w' := by
 have hw : IntKind.u8.wrap (s.size : Int) = ((s.size : Nat) : Int) := by rw [IntKind.wrap_u8]; omega
 have ho := Own.lit (w := w) (e := 5) (base := w.heap.size) (cs := #[.int .u8 (s.size : Nat)]) [UInt8.ofNat s.size] (by simp [bs, u8c]; omega) (by simp [maxLen]) (Nat.le_refl _)
 obtain ⟨g, _, hs2⟩ := ho.shows
 have hcv := conv_at hs2
 have hB := below_boxV w (Obj.cells #[.int .u8 (s.size : Nat)] 5)
 have HE := Lib.hid (show str8 [UInt8.ofNat s.size] ++ s = str8 (be 1 s.size ++ sb s) by
  rw [be_one, ← str8_app9, str8_sb])
 have HB := Lib.hid hB
 have hz : ¬ 9223372036854775807 < (str8 [UInt8.ofNat s.size]).size + s.size := by rw [str8_size]; simp; omega
 clear ho hs2 hB
 simp only [List.length_cons, List.length_nil, Nat.zero_add, Nat.reduceAdd] at hcv
 go_enter Tryz.func25, Tryz.ntmps25
 go_wp2_with fail
 go_ret
 exact ⟨by rw [← HE.out]; rfl, HB.out⟩
noncomputable def qmayB (p : PutE) : Bool := qnOK p.q && ((decide (p.id = 0) || msgOK p.id) && (decide (errP p.p = 0) && (decide ((putPr p.p).size ≤ 8192) && decide (p.body.size ≤ 4096))))
theorem qmayB_eq (p : PutE) : qmayB p = (putOKB p && (decide (p.id = 0) || msgOK p.id)) := by
 rw [putOKB_eq]
 unfold qmayB
 cases qnOK p.q <;> cases decide (p.body.size ≤ 4096) <;> cases decide (errP p.p = 0) <;> cases decide ((putPr p.p).size ≤ 8192) <;> cases (decide (p.id = 0) || msgOK p.id) <;> rfl
set_option maxHeartbeats 4000000 in
theorem qmay_any (c : PutC) (w : World) (h : PutAt w c) :
  Calls Tryz.prog 61 #[putV c] w fun e w' => e = .returned (.bool (qmayB c.e)) ∧ Below w.heap.size w w' := by
 have HQ := Lib.hid (fun w' => qqname_any c.e.q w' (by have := h.q; omega))
 have HI := Lib.hid (fun w' => qid_any c.e.id w')
 have HP := Lib.hid (fun w' (hb : Below w.heap.size w w') => qpput_any c.e.p _ _ _ _ _ w' (h.pr.kept hb (Nat.le_refl _)))
 unfold qmayB
 obtain ⟨⟨q, id, ⟨key, dur, red, pid, app⟩, body⟩, ⟨k, n, ss, a3, n3, c3, a4, n4, c4⟩⟩ := c
 unfold putV
 unfold propV at HP
 simp only [] at HQ HP HI ⊢
 have hB := below_boxV w (Obj.cells #[.string q, .int .u64 id, .string key, .bool dur, .bool red, .string pid, .int .u8 k, .int .u64 n, .string ss, .slice a3 n3 c3, .slice a4 n4 c4, .string body] 67)
 have hX := BoxT.new (c := ⟨⟨q, id, ⟨key, dur, red, pid, app⟩, body⟩, ⟨k, n, ss, a3, n3, c3, a4, n4, c4⟩⟩) w
 obtain ⟨⟨e0, e1, e2, e3, e4, e5⟩, e6, e7, e8, e9, e10, e11⟩ := hX.cells
 simp only [] at e0 e1 e2 e3 e4 e5 e6 e7 e8 e9 e10 e11
 have HB := Lib.hid hB
 have HX := Lib.hid hX
 have HPX := Lib.hid (HP.out _ hB)
 generalize putPr ⟨key, dur, red, pid, app⟩ = S at *
 generalize errP ⟨key, dur, red, pid, app⟩ = E at *
 generalize qnOK q = b1 at *
 generalize msgOK id = b6 at *
 obtain ⟨b2, hb2⟩ : ∃ b2, b2 = decide (body.size ≤ 4096) := ⟨_, rfl⟩
 obtain ⟨b3, hb3⟩ : ∃ b3, b3 = decide (E = 0) := ⟨_, rfl⟩
 obtain ⟨b4, hb4⟩ : ∃ b4, b4 = decide (S.size ≤ 8192) := ⟨_, rfl⟩
 obtain ⟨b5, hb5⟩ : ∃ b5, b5 = decide (id = 0) := ⟨_, rfl⟩
 rw [← hb2, ← hb3, ← hb4, ← hb5]
 have t2 : decide ((body.size : Int) ≤ 4096) = b2 := by rw [hb2, Bool.eq_iff_iff]; simp only [decide_eq_true_eq]; omega
 have t3 : ((E : Int) == 0) = b3 := by rw [hb3, Bool.eq_iff_iff]; simp
 have t4 : decide ((S.size : Int) ≤ 8192) = b4 := by rw [hb4, Bool.eq_iff_iff]; simp only [decide_eq_true_eq]; omega
 have t5 : ((id : Int) == 0) = b5 := by rw [hb5, Bool.eq_iff_iff]; simp
 clear hb2 hb3 hb4 hb5 h hB hX HP
 go_enter Tryz.func61, Tryz.ntmps61
 go_wp2_with fail
 refine HPX.out.mono ?_
 rintro e w1 ⟨rfl, hb1⟩
 have hX1 := HX.out.kept hb1 (Nat.le_refl _)
 have HBB := Lib.hid (HB.out.trans (hb1.mono HB.out.size))
 clear e0 e1 e2 e3 e4 e5 e6 e7 e8 e9 e10 e11
 obtain ⟨⟨e0, e1, e2, e3, e4, e5⟩, e6, e7, e8, e9, e10, e11⟩ := hX1.cells
 simp only [] at e0 e1 e2 e3 e4 e5 e6 e7 e8 e9 e10 e11
 clear hX1 hb1
 go_wp2_with fail
 refine (HQ.out _).mono ?_
 rintro e w2 ⟨rfl, rfl⟩
 cases b1 with
 | false =>
  go_wp2_with fail
  go_ret
  exact ⟨rfl, HBB.out⟩
 | true =>
 cases b5 with
 | true =>
  cases b3
  case' true => cases b4
  all_goals
   go_wp2_with fail
   go_ret
   exact ⟨by first | rfl | (rw [t2]; rfl), HBB.out⟩
 | false =>
  go_wp2_with fail
  refine (HI.out _).mono ?_
  rintro e w3 ⟨rfl, rfl⟩
  cases b6
  case' true =>
   cases b3
   case' true => cases b4
  all_goals
   go_wp2_with fail
   go_ret
   exact ⟨by first | rfl | (rw [t2]; rfl), HBB.out⟩
end Go.Proofs.YtdklhcmoilcpgaaGreat
namespace Go.Proofs.YtdklhcmoilcpgaaGreat
open Go.RowKit
set_option maxRecDepth 100000
noncomputable def dput (k : Nat) (p : PutE) : Bool := qmayB p && (decide (p.id = 0) == decide (k = 4))
theorem dput_iff {k : Nat} (hk : uWork k = true) (p : PutE) : dput k p = true ↔ putMay (decide (k = 3)) p := by
 unfold dput putMay putNum
 rw [qmayB_eq]
 unfold putOKB msgOK
 have hk' : k = 3 ∨ k = 4 := of_decide_eq_true hk
 rcases hk' with rfl | rfl
 ·simp
  constructor
  ·rintro ⟨⟨h1, h2⟩, h3⟩; exact ⟨by omega, h1⟩
  ·rintro ⟨h1, h2⟩; exact ⟨⟨h2, by omega⟩, by omega⟩
 ·simp
  constructor
  ·rintro ⟨⟨h1, h2⟩, h3⟩; exact ⟨h3, h1⟩
  ·rintro ⟨h1, h2⟩; exact ⟨⟨h2, .inl h1⟩, h1⟩
theorem docE_iff (x : EntC) : validE x.e ↔ (kindOK x.k = true ∧ x.cs.length ≤ 100 ∧ x.rs.length ≤ 100) ∧ (tstName x.e = true ∧ tstNum x.e = true) ∧ (tstX x.e = true ∧ (uWork x.k = true ∨ x.cs.length + x.rs.length = 0)) ∧ (∀ j (h : j < x.cs.length), dput x.k x.cs[j].e = true) ∧ (∀ j (h : j < x.rs.length), refMay x.rs[j] = true) := by
 rw [tests_eq]
 have e1 : x.e.puts = esOf x.cs := rfl
 have e2 : x.e.takes = x.rs := rfl
 have e3 : x.e.k = x.k := rfl
 have ht : tstWork x.e = true ↔ (x.cs.length ≤ 100 ∧ x.rs.length ≤ 100) ∧ (uWork x.k = true ∨ x.cs.length + x.rs.length = 0) ∧ (∀ j (h : j < x.cs.length), dput x.k x.cs[j].e = true) ∧ (∀ j (h : j < x.rs.length), refMay x.rs[j] = true) := by
  unfold tstWork rightD
  rw [e1, e2, e3, esOf_len]
  cases hw : uWork x.k with
  | false =>
   simp only [Bool.false_eq_true, if_false, decide_eq_true_eq, false_or]
   constructor
   ·intro h
    exact ⟨⟨by omega, by omega⟩, h, fun j hj => absurd hj (by omega), fun j hj => absurd hj (by omega)⟩
   ·exact fun h => h.2.1
  | true =>
   simp only [if_true, true_or, true_and]
   have hwb : wrkB x.e = true ↔ workOK x.e := by unfold wrkB; simp only [decide_eq_true_eq]
   rw [hwb]
   unfold workOK
   rw [e1, e2, e3, esOf_len]
   constructor
   ·rintro ⟨h1, h2, h3, h4⟩
    exact ⟨⟨h1, h2⟩, fun j hj => (dput_iff hw _).2 (h3 _ (List.mem_map.2 ⟨x.cs[j], List.getElem_mem hj, rfl⟩)), fun j hj => h4 _ (List.getElem_mem hj)⟩
   ·rintro ⟨⟨h1, h2⟩, h3, h4⟩
    refine ⟨h1, h2, fun p hp => ?_, fun r hr => ?_⟩
    ·obtain ⟨c, hc, rfl⟩ := List.mem_map.1 hp
     obtain ⟨j, hj, rfl⟩ := List.getElem_of_mem hc
     exact (dput_iff hw _).1 (h3 j hj)
    ·obtain ⟨j, hj, rfl⟩ := List.getElem_of_mem hr
     exact h4 j hj
 rw [ht, e3]
 constructor
 ·rintro ⟨h1, h2, h3, h4, ⟨h5, h6⟩, h7, h8, h9⟩; exact ⟨⟨h1, h5, h6⟩, ⟨h2, h3⟩, ⟨h4, h7⟩, h8, h9⟩
 ·rintro ⟨⟨h1, h5, h6⟩, ⟨h2, h3⟩, ⟨h4, h7⟩, h8, h9⟩; exact ⟨h1, h2, h3, h4, ⟨h5, h6⟩, h7, h8, h9⟩
theorem qxcheck_any (f : Nat) (g h : ByteArray) (w : World) (hg : g.size ≤ 140737488355328) (hh : h.size ≤ 140737488355328) :
  Calls Tryz.prog 60 #[xidV f g h] w fun e w' => e = .returned (.int .i64 (errX g h)) ∧ Below w.heap.size w w' := by
 unfold errX mayXB
 by_cases hm : mayX g h
 ·rw [if_pos (decide_eq_true hm)]; exact qcheck_ok f g h w hm
 ·rw [if_neg (by simpa using hm)]; exact qcheck_no f g h w hm hg hh
set_option maxHeartbeats 16000000 in
theorem qecheck_any (x : EntC) (w : World) (h : ShowsE w x) :
    Calls Tryz.prog 22 #[entV x] w fun e w' => e = .returned (.int .i64 (errE x.e)) ∧ Below w.heap.size w w' := by
  have hok := fun ht => errE_ok ((docE_iff x).2 ht)
  have hno : ¬ _ → errE x.e = 130 := fun ht => errE_no (fun hv => ht ((docE_iff x).1 hv))
  have HR := Lib.hid (fun w' => qrow_any x.k w')
  have HQ := Lib.hid (fun w' => qqname_any x.name w' (by have := h.name; omega))
  have HM := Lib.hid (fun w' => qid_any x.n w')
  have HC := Lib.hid (fun w' => qxcheck_any x.xf x.xg x.xh w' (by have := h.xg; omega) (by have := h.xh; omega))
  have HPM := Lib.hid (fun j (hj : j < x.cs.length) w' (hb : Below w.heap.size w w') => qmay_any x.cs[j] w' ((h.puts.each j hj).kept hb (Nat.le_refl _)))
  have HRQ := Lib.hid (fun j (hj : j < x.rs.length) w' => qqname_any x.rs[j].q w' (by have := (h.takes.each j hj).1; omega))
  have HRM := Lib.hid (fun j (hj : j < x.rs.length) w' => qid_any x.rs[j].id w')
  have HPA := Lib.hid (fun w' (hb : Below w.heap.size w w') => (h.puts.kept hb (Nat.le_refl _)).at_)
  have HRA := Lib.hid (fun w' (hb : Below w.heap.size w w') => (h.takes.kept hb (Nat.le_refl _)).at_)
  have d1 : tstName x.e = rightD (uName x.k) x.name.toList.isEmpty (qnOK x.name) := rfl
  have d2 : tstNum x.e = rightD (uNum x.k) (decide (x.n = 0)) (msgOK x.n) := rfl
  have d3 : tstX x.e = rightD (uX x.k) (decide ((x.xf, x.xg, x.xh) = (0, ⟨#[]⟩, ⟨#[]⟩))) (mayXB x.xg x.xh) := rfl
  have hG := xidGuard
  have hEq := fun w => run_eq_xid0 x.xf x.xg x.xh w
  have t1 : ((x.n : Int) != 0) = !decide (x.n = 0) := by rw [Bool.eq_iff_iff]; simp
  have t3 : decide ((0 : Int) < (x.cs.length : Int) + (x.rs.length : Int)) = !decide (x.cs.length + x.rs.length = 0) := by rw [Bool.eq_iff_iff]; simp only [Bool.not_eq_true', decide_eq_true_eq, decide_eq_false_iff_not]; omega
  have t3' : decide (0 < x.cs.length + x.rs.length) = !decide (x.cs.length + x.rs.length = 0) := by rw [Bool.eq_iff_iff]; simp only [Bool.not_eq_true', decide_eq_true_eq, decide_eq_false_iff_not]; omega
  have t4 : IntKind.i64.wrap ((x.cs.length : Int) + (x.rs.length : Int)) = (x.cs.length : Int) + (x.rs.length : Int) := i64_id _ (by omega) (by have := h.puts.lm; have := h.takes.lm; omega)
  have hE : ((errX x.xg x.xh : Int) != 0) = !mayXB x.xg x.xh := by
    unfold errX
    cases mayXB x.xg x.xh <;> rfl
  obtain ⟨z5, hz5⟩ : ∃ z5, z5 = decide (100 < x.cs.length) := ⟨_, rfl⟩
  obtain ⟨z6, hz6⟩ : ∃ z6, z6 = decide (100 < x.rs.length) := ⟨_, rfl⟩
  have t5 : decide ((100 : Int) < (x.cs.length : Int)) = z5 := by rw [hz5, Bool.eq_iff_iff]; simp only [decide_eq_true_eq]; omega
  have t6 : decide ((100 : Int) < (x.rs.length : Int)) = z6 := by rw [hz6, Bool.eq_iff_iff]; simp only [decide_eq_true_eq]; omega
  obtain ⟨ne, hne⟩ : ∃ ne, ne = x.name.toList.isEmpty := ⟨_, rfl⟩
  rw [← hne] at d1
  replace hne := hne.symm
  have hlc := h.puts.lm
  have hlr := h.takes.lm
  generalize errX x.xg x.xh = EX at *
  generalize errE x.e = E at *
  generalize tstName x.e = g1 at *
  generalize tstNum x.e = g2 at *
  generalize tstX x.e = g3 at *
  have HZ4 := Lib.hid (show decide (x.cs.length + x.rs.length = 0) = decide (x.cs.length + x.rs.length = 0) from rfl)
  obtain ⟨z4, hz4⟩ : ∃ z4, z4 = decide (x.cs.length + x.rs.length = 0) := ⟨_, rfl⟩
  rw [← hz4] at t3 t3'
  clear HZ4
  generalize decide (x.n = 0) = z2 at *
  generalize decide ((x.xf, x.xg, x.xh) = (0, ⟨#[]⟩, ⟨#[]⟩)) = z3 at *
  obtain ⟨k, name, n, xf, xg, xh, A1, c1, cs, A2, c2, rs⟩ := x
  unfold entV
  unfold xidV at HC
  simp only [] at *
  have hB := below_boxV w (Obj.cells #[.int .u8 k, .string name, .int .u64 n, .int .u32 xf, .string xg, .string xh, .slice A1 cs.length c1, .slice A2 rs.length c2] 29)
  have hBX := BoxE.new (x := ⟨k, name, n, xf, xg, xh, A1, c1, cs, A2, c2, rs⟩) w
  obtain ⟨W1, hW1⟩ : ∃ W1, W1 = w.alloc (Obj.cells #[.int .u8 k, .string name, .int .u64 n, .int .u32 xf, .string xg, .string xh, .slice A1 cs.length c1, .slice A2 rs.length c2] 29) := ⟨_, rfl⟩
  rw [← hW1] at hB hBX
  obtain ⟨⟨e0, e1, e2⟩, ⟨e3, e4, e5⟩, e6, e7⟩ := hBX.cells
  simp only [] at e0 e1 e2 e3 e4 e5 e6 e7
  have HB := Lib.hid hB
  have HBX := Lib.hid hBX
  have HOK := Lib.hid hok
  have HNO := Lib.hid hno
  have HD := Lib.hid (And.intro d1 (And.intro d2 (And.intro d3 (And.intro hz4 (And.intro hz5 hz6)))))
  clear hok hno d1 d2 d3 hz4 hz5 hz6 h hB hBX
  have hu : (fun (b : Bool) => b) (uWork k) = uWork k := rfl
  clear hu
  generalize hu4 : uWork k = u4 at *
  have HU4 := Lib.hid hu4
  clear hu4
  generalize uName k = u1 at *
  generalize uNum k = u2 at *
  generalize uX k = u3 at *
  generalize kindOK k = kb at *
  generalize qnOK name = q1 at *
  generalize msgOK n = q2 at *
  generalize mayXB xg xh = q3 at *
  go_enter Tryz.func22, Tryz.ntmps22
  go_upto_region 1 with fail
  rw [← hW1]
  clear hW1
  go_wp2_with fail
  refine (HR.out _).mono ?_
  rintro e w9 ⟨rfl, hw9⟩
  rw [hw9]
  clear hw9
  cases kb with
  | false =>
    obtain rfl : E = 130 := HNO.out (fun c => by cases c.1.1)
    go_wp2_with fail
    go_ret
    exact ⟨rfl, HB.out⟩
  | true =>
  cases z5 with
  | true =>
    obtain rfl : E = 130 := HNO.out (fun c => by have := c.1.2.1; have h5 := HD.out.2.2.2.2.1; rw [eq_comm, decide_eq_true_eq] at h5; omega)
    go_wp2_with fail
    go_ret
    exact ⟨rfl, HB.out⟩
  | false =>
  cases z6 with
  | true =>
    obtain rfl : E = 130 := HNO.out (fun c => by have := c.1.2.2; have h5 := HD.out.2.2.2.2.2; rw [eq_comm, decide_eq_true_eq] at h5; omega)
    go_wp2_with fail
    go_ret
    exact ⟨rfl, HB.out⟩
  | false =>
  go_upto_region 4 with fail
  go_cut [66] from 33 to 66 (fun v wx => v = .bool (!(g1 && g2)) ∧ wx = W1)
  case first =>
    cases u1 with
    | true =>
      go_wp2_with fail
      refine (HQ.out _).mono ?_
      rintro e w9 ⟨rfl, hw9⟩
      rw [hw9]
      clear hw9
      cases q1 with
      | false =>
        go_wp2_with fail
        go_meet
        case rel => exact ⟨by rw [HD.out.1]; first | rfl | (rw [HD.out.2.1]; rfl), rfl⟩
      | true =>
        cases u2 with
        | true =>
          go_wp2_with fail
          refine (HM.out _).mono ?_
          rintro e w9 ⟨rfl, hw9⟩
          rw [hw9]
          clear hw9
          cases q2
          all_goals
            go_wp2_with fail
            go_meet
            case rel => exact ⟨by rw [HD.out.1]; first | rfl | (rw [HD.out.2.1]; rfl), rfl⟩
        | false =>
          cases z2
          all_goals
            go_wp2_with fail
            go_meet
            case rel => exact ⟨by rw [HD.out.1]; first | rfl | (rw [HD.out.2.1]; rfl), rfl⟩
    | false =>
      cases ne with
      | false =>
        go_wp2_with fail
        go_meet
        case rel => exact ⟨by rw [HD.out.1]; first | rfl | (rw [HD.out.2.1]; rfl), rfl⟩
      | true =>
        cases u2 with
        | true =>
          go_wp2_with fail
          refine (HM.out _).mono ?_
          rintro e w9 ⟨rfl, hw9⟩
          rw [hw9]
          clear hw9
          cases q2
          all_goals
            go_wp2_with fail
            go_meet
            case rel => exact ⟨by rw [HD.out.1]; first | rfl | (rw [HD.out.2.1]; rfl), rfl⟩
        | false =>
          cases z2
          all_goals
            go_wp2_with fail
            go_meet
            case rel => exact ⟨by rw [HD.out.1]; first | rfl | (rw [HD.out.2.1]; rfl), rfl⟩
  case rest =>
  obtain ⟨rfl, hwc⟩ := hcut
  rw [hwc]
  clear hwc
  cases g1 with
  | false =>
    obtain rfl : E = 130 := HNO.out (fun c => by cases c.2.1.1)
    go_wp2_with fail
    go_ret
    exact ⟨rfl, HB.out⟩
  | true =>
  cases g2 with
  | false =>
    obtain rfl : E = 130 := HNO.out (fun c => by cases c.2.1.2)
    go_wp2_with fail
    go_ret
    exact ⟨rfl, HB.out⟩
  | true =>
  go_upto_region 6 with fail
  go_cut [97] from 67 to 97 (fun v wx => v = .bool (!(g3 && (u4 || z4))) ∧ Below W1.heap.size W1 wx)
  case first =>
    cases u3 with
    | true =>
      go_wp2_with fail
      refine (HC.out _).mono ?_
      rintro e w9 ⟨rfl, hb9⟩
      have hb8 := HB.out.trans (hb9.mono HB.out.size)
      cases q3 with
      | false =>
        go_wp2_with fail
        go_meet
        case rel => exact ⟨by rw [HD.out.2.2.1]; rfl, hb9⟩
      | true =>
        clear e0 e1 e2 e3 e4 e5 e6 e7
        obtain ⟨⟨e0, e1, e2⟩, ⟨e3, e4, e5⟩, e6, e7⟩ := (HBX.out.kept hb9 (Nat.le_refl _)).cells
        simp only [] at e0 e1 e2 e3 e4 e5 e6 e7
        cases u4 with
        | true =>
          go_wp2_with fail
          go_meet
          case rel => exact ⟨by rw [HD.out.2.2.1]; rfl, hb9⟩
        | false =>
          cases z4
          all_goals
            go_wp2_with fail
            go_meet
            case rel => exact ⟨by rw [HD.out.2.2.1]; rfl, hb9⟩
    | false =>
      cases z3 with
      | false =>
        go_wp2_with fail
        go_meet
        case rel => exact ⟨by rw [HD.out.2.2.1]; rfl, Below.refl _ _⟩
      | true =>
        cases u4 with
        | true =>
          go_wp2_with fail
          go_meet
          case rel => exact ⟨by rw [HD.out.2.2.1]; rfl, Below.refl _ _⟩
        | false =>
          cases z4
          all_goals
            go_wp2_with fail
            go_meet
            case rel => exact ⟨by rw [HD.out.2.2.1]; rfl, Below.refl _ _⟩
  case rest =>
  obtain ⟨rfl, hbc⟩ := hcut
  cases g3 with
  | false =>
    obtain rfl : E = 130 := HNO.out (fun c => by cases c.2.2.1.1)
    go_wp2_with fail
    go_ret
    exact ⟨rfl, HB.out.trans (hbc.mono HB.out.size)⟩
  | true =>
  obtain ⟨l4, hl4⟩ : ∃ l4, l4 = (u4 || z4) := ⟨_, rfl⟩
  rw [← hl4]
  cases l4 with
  | false =>
    obtain rfl : E = 130 := HNO.out (fun c => by have h4 := HD.out.2.2.2.1; rcases c.2.2.1.2 with h | h <;> (first | (rw [h] at hl4; cases hl4) | (rw [h4, decide_eq_true h] at hl4; simp at hl4)))
    go_wp2_with fail
    go_ret
    exact ⟨rfl, HB.out.trans (hbc.mono HB.out.size)⟩
  | true =>
  have HL := Lib.hid (show u4 = true ∨ cs.length + rs.length = 0 by
    have h4 := HD.out.2.2.2.1
    cases u4 with
    | true => exact .inl rfl
    | false => refine .inr (of_decide_eq_true ?_); rw [← h4]; simpa using hl4.symm)
  clear hl4 e0 e1 e2 e3 e4 e5 e6 e7
  go_wp2_with fail
  go_loopw [8] (fun iv wr => ∃ j : Nat, j ≤ cs.length ∧ iv = .int .i64 j ∧ Below W1.heap.size W1 wr ∧ ∀ j' (h : j' < cs.length), j' < j → dput k cs[j'].e = true) (fun i _ => cs.length - (intOf i).toNat)
  case atStart => exact ⟨0, by omega, rfl, hbc, fun _ _ h => absurd h (by omega)⟩
  case round =>
    rename World => wr
    obtain ⟨j, hj, rfl, hbr, hall⟩ := hrel
    have hwr := HB.out.trans (hbr.mono HB.out.size)
    obtain ⟨⟨e0, e1, e2⟩, ⟨e3, e4, e5⟩, e6, e7⟩ := (HBX.out.kept hbr (Nat.le_refl _)).cells
    simp only [] at e0 e1 e2 e3 e4 e5 e6 e7
    by_cases hlt : j < cs.length
    · have b1 : (j : Int) < (cs.length : Int) := by omega
      have hj0 : (0 : Int) ≤ (j : Int) := by omega
      obtain ⟨d, o, hA, hd, _⟩ := HPA.out _ hwr j hlt
      subst hA
      have HKEEP := Lib.hid (show ∀ w', Below wr.heap.size wr w' → (w'.cell? ⟨w.heap.size, 0, none⟩ = some (.int .u8 k) ∧ w'.cell? ⟨w.heap.size, 4, none⟩ = some (.string xg) ∧ w'.cell? ⟨w.heap.size, 6, none⟩ = some (.slice (some ⟨d, o, none⟩) cs.length c1)) ∧ (w'.cell? ⟨d, o + j * 12, none⟩ = some (.string cs[j].e.q) ∧ w'.cell? ⟨d, o + j * 12 + 1, none⟩ = some (.int .u64 cs[j].e.id) ∧ w'.cell? ⟨d, o + j * 12 + 2, none⟩ = some (.string cs[j].e.p.key) ∧ w'.cell? ⟨d, o + j * 12 + 3, none⟩ = some (.bool cs[j].e.p.dur) ∧ w'.cell? ⟨d, o + j * 12 + 4, none⟩ = some (.bool cs[j].e.p.red) ∧ w'.cell? ⟨d, o + j * 12 + 5, none⟩ = some (.string cs[j].e.p.id) ∧ w'.cell? ⟨d, o + j * 12 + 6, none⟩ = some (.int .u8 cs[j].x.k) ∧ w'.cell? ⟨d, o + j * 12 + 7, none⟩ = some (.int .u64 cs[j].x.n) ∧ w'.cell? ⟨d, o + j * 12 + 8, none⟩ = some (.string cs[j].x.s) ∧ w'.cell? ⟨d, o + j * 12 + 9, none⟩ = some (.slice cs[j].x.a3 cs[j].x.n3 cs[j].x.c3) ∧ w'.cell? ⟨d, o + j * 12 + 10, none⟩ = some (.slice cs[j].x.a4 cs[j].x.n4 cs[j].x.c4) ∧ w'.cell? ⟨d, o + j * 12 + 11, none⟩ = some (.string cs[j].e.body)) from fun w' hb' => by
        obtain ⟨_, _, e, _, ⟨g0, g1, g2, g3, g4, g5⟩, g6, g7, g8, g9, g10, g11⟩ := HPA.out w' (hwr.trans (hb'.mono hwr.size)) j hlt
        cases e
        obtain ⟨⟨f0, f1, f2⟩, ⟨f3, f4, f5⟩, f6, f7⟩ := (HBX.out.kept (hbr.trans (hb'.mono hbr.size)) (Nat.le_refl _)).cells
        exact ⟨⟨f0, f4, f6⟩, g0, g1, g2, g3, g4, g5, g6, g7, g8, g9, g10, g11⟩)
      have hmay := HPM.out j hlt _ (below_drew1 hwr)
      have HDP := Lib.hid (show dput k cs[j].e = (qmayB cs[j].e && (decide (cs[j].e.id = 0) == decide (k = 4))) from rfl)
      unfold putV at hmay
      have tI : ((cs[j].e.id : Int) == 0) = decide (cs[j].e.id = 0) := by rw [Bool.eq_iff_iff]; simp
      have tK : ((k : Int) == 4) = decide (k = 4) := by rw [Bool.eq_iff_iff]; simp only [beq_iff_eq, decide_eq_true_eq]; omega
      generalize qmayB cs[j].e = qm at *
      generalize decide (cs[j].e.id = 0) = iz at *
      generalize decide (k = 4) = k4 at *
      have HMAY := Lib.hid hmay
      have HWR := Lib.hid (And.intro hbr (And.intro hwr hall))
      clear hmay hbr hwr hall hd
      cases qm with
      | false =>
        obtain rfl : E = 130 := HNO.out (fun c => by have := c.2.2.2.1 j hlt; rw [HDP.out] at this; cases this)
        go_wp2_with fail
        refine wp_region_held_drew (S := fun w' => (w'.cell? ⟨w.heap.size, 0, none⟩ = some (.int .u8 k) ∧ w'.cell? ⟨w.heap.size, 4, none⟩ = some (.string xg) ∧ w'.cell? ⟨w.heap.size, 6, none⟩ = some (.slice (some ⟨d, o, none⟩) cs.length c1)) ∧ (w'.cell? ⟨d, o + j * 12, none⟩ = some (.string cs[j].e.q) ∧ w'.cell? ⟨d, o + j * 12 + 1, none⟩ = some (.int .u64 cs[j].e.id) ∧ w'.cell? ⟨d, o + j * 12 + 2, none⟩ = some (.string cs[j].e.p.key) ∧ w'.cell? ⟨d, o + j * 12 + 3, none⟩ = some (.bool cs[j].e.p.dur) ∧ w'.cell? ⟨d, o + j * 12 + 4, none⟩ = some (.bool cs[j].e.p.red) ∧ w'.cell? ⟨d, o + j * 12 + 5, none⟩ = some (.string cs[j].e.p.id) ∧ w'.cell? ⟨d, o + j * 12 + 6, none⟩ = some (.int .u8 cs[j].x.k) ∧ w'.cell? ⟨d, o + j * 12 + 7, none⟩ = some (.int .u64 cs[j].x.n) ∧ w'.cell? ⟨d, o + j * 12 + 8, none⟩ = some (.string cs[j].x.s) ∧ w'.cell? ⟨d, o + j * 12 + 9, none⟩ = some (.slice cs[j].x.a3 cs[j].x.n3 cs[j].x.c3) ∧ w'.cell? ⟨d, o + j * 12 + 10, none⟩ = some (.slice cs[j].x.a4 cs[j].x.n4 cs[j].x.c4) ∧ w'.cell? ⟨d, o + j * 12 + 11, none⟩ = some (.string cs[j].e.body))) (by kernel_rfl) (HKEEP.out _ (below_drew1 (Below.refl _ _))) (fun hHeld => ?_)
        refine wpAnyH_take (i := 0) (oi := { dst := some 105, op := Op.fieldAddr 29 (Operand.tmp 1) 4, type := 0, pos := "ref.go:71", after := #[], guard := none }) (v := ?_) rfl (by kernel_rfl) (by kernel_rfl) (by kernel_rfl) (fun _ _ _ h => h) (Or.inl ⟨by rfl, ?_⟩) (by assumption) ?_
        rotate_left
        · intro w9 hSw
          obtain ⟨⟨f0, f4, f6⟩, g0, g1, g2, g3, g4, g5, g6, g7, g8, g9, g10, g11⟩ := hSw
          go_simp
          try with_reducible rfl
        try simp only [Act.put, List.setIfInBounds_toArray, List.set_cons_zero, List.set_cons_succ]
        refine wpAnyH_take (i := 1) (oi := { dst := some 106, op := Op.load 26 (Operand.tmp 105), type := 26, pos := "ref.go:71", after := #[{ on := 0, ground := Ground.data }], guard := none }) (v := ?_) rfl (by kernel_rfl) (by kernel_rfl) (by kernel_rfl) (fun _ _ _ h => h) (Or.inl ⟨by rfl, ?_⟩) (by assumption) ?_
        rotate_left
        · intro w9 hSw
          obtain ⟨⟨f0, f4, f6⟩, g0, g1, g2, g3, g4, g5, g6, g7, g8, g9, g10, g11⟩ := hSw
          go_simp
          try with_reducible rfl
        try simp only [Act.put, List.setIfInBounds_toArray, List.set_cons_zero, List.set_cons_succ]
        refine wpAnyH_take (i := 2) (oi := { dst := some 107, op := Op.move (Operand.tmp 8), type := 3, pos := "ref.go:71", after := #[], guard := none }) (v := ?_) rfl (by kernel_rfl) (by kernel_rfl) (by kernel_rfl) (fun _ _ _ h => h) (Or.inl ⟨by rfl, ?_⟩) (by assumption) ?_
        rotate_left
        · intro w9 hSw
          obtain ⟨⟨f0, f4, f6⟩, g0, g1, g2, g3, g4, g5, g6, g7, g8, g9, g10, g11⟩ := hSw
          go_simp
          try with_reducible rfl
        try simp only [Act.put, List.setIfInBounds_toArray, List.set_cons_zero, List.set_cons_succ]
        refine wpAnyH_take (i := 3) (oi := { dst := some 108, op := Op.indexAddr 26 (Operand.tmp 106) (Operand.tmp 107), type := 0, pos := "ref.go:71", after := #[{ on := 1, ground := Ground.data }, { on := 2, ground := Ground.data }], guard := none }) (v := ?_) rfl (by kernel_rfl) (by kernel_rfl) (by kernel_rfl) (fun _ _ _ h => h) (Or.inl ⟨by rfl, ?_⟩) (by assumption) ?_
        rotate_left
        · intro w9 hSw
          obtain ⟨⟨f0, f4, f6⟩, g0, g1, g2, g3, g4, g5, g6, g7, g8, g9, g10, g11⟩ := hSw
          go_simp
          try with_reducible rfl
        try simp only [Act.put, List.setIfInBounds_toArray, List.set_cons_zero, List.set_cons_succ]
        refine wpAnyH_take (i := 4) (oi := { dst := some 109, op := Op.load 67 (Operand.tmp 108), type := 67, pos := "ref.go:71", after := #[{ on := 3, ground := Ground.data }], guard := none }) (v := ?_) rfl (by kernel_rfl) (by kernel_rfl) (by kernel_rfl) (fun _ _ _ h => h) (Or.inl ⟨by rfl, ?_⟩) (by assumption) ?_
        rotate_left
        · intro w9 hSw
          obtain ⟨⟨f0, f4, f6⟩, g0, g1, g2, g3, g4, g5, g6, g7, g8, g9, g10, g11⟩ := hSw
          go_simp
          try with_reducible rfl
        try simp only [Act.put, List.setIfInBounds_toArray, List.set_cons_zero, List.set_cons_succ]
        refine wpAnyH_ready (rs := [5]) (by kernel_rfl) (by simp) ?_
        refine AllReadyH.cons (o := { dst := some 110, op := Op.call { callee := Callee.value (Operand.func 61), args := #[Operand.tmp 109], argTypes := #[67] }, type := 4, pos := "ref.go:71", after := #[{ on := 4, ground := Ground.data }], guard := none }) rfl (fun K hK => ?_) AllReadyH.nil
        go_simp
        refine HMAY.out.mono ?_
        rintro e wx ⟨rfl, hx⟩
        have hS5 := HKEEP.out _ ((below_drew1 (Below.refl _ _)).trans hx)
        refine hK.out _ _ hS5 (fun _ => ?_)
        clear hK K
        try simp only [Act.put, List.setIfInBounds_toArray, List.set_cons_zero, List.set_cons_succ]
        refine wpAnyH_take (i := 6) (oi := { dst := some 111, op := Op.unOp UnOp.not 4 (Operand.tmp 110), type := 4, pos := "ref.go:71", after := #[{ on := 5, ground := Ground.data }], guard := none }) (v := ?_) rfl (by kernel_rfl) (by kernel_rfl) (by kernel_rfl) (fun _ _ _ h => h) (Or.inl ⟨by rfl, ?_⟩) (by assumption) ?_
        rotate_left
        · intro w9 hSw
          obtain ⟨⟨f0, f4, f6⟩, g0, g1, g2, g3, g4, g5, g6, g7, g8, g9, g10, g11⟩ := hSw
          go_simp
          try with_reducible rfl
        try simp only [Act.put, List.setIfInBounds_toArray, List.set_cons_zero, List.set_cons_succ]
        refine wpAnyH_take (i := 7) (oi := { dst := some 112, op := Op.move (Operand.tmp 111), type := 4, pos := "ref.go:71", after := #[{ on := 6, ground := Ground.data }, { on := 5, ground := Ground.chain }], guard := none }) (v := ?_) rfl (by kernel_rfl) (by kernel_rfl) (by kernel_rfl) (fun _ _ _ h => h) (Or.inl ⟨by rfl, ?_⟩) (by assumption) ?_
        rotate_left
        · intro w9 hSw
          obtain ⟨⟨f0, f4, f6⟩, g0, g1, g2, g3, g4, g5, g6, g7, g8, g9, g10, g11⟩ := hSw
          go_simp
          try with_reducible rfl
        try simp only [Act.put, List.setIfInBounds_toArray, List.set_cons_zero, List.set_cons_succ]
        refine wpAnyH_take (i := 8) (oi := { dst := some 113, op := Op.fieldAddr 29 (Operand.tmp 1) 4, type := 0, pos := "ref.go:71", after := #[{ on := 7, ground := Ground.guard }], guard := some (7, false) }) (v := _) rfl (by kernel_rfl) (by kernel_rfl) (by kernel_rfl) (fun _ _ _ h => h) (Or.inr ⟨by rfl, rfl⟩) (by assumption) ?_
        try simp only [Act.put, List.setIfInBounds_toArray, List.set_cons_zero, List.set_cons_succ]
        refine wpAnyH_take (i := 9) (oi := { dst := some 114, op := Op.load 26 (Operand.tmp 113), type := 26, pos := "ref.go:71", after := #[{ on := 8, ground := Ground.data }, { on := 7, ground := Ground.guard }], guard := some (7, false) }) (v := _) rfl (by kernel_rfl) (by kernel_rfl) (by kernel_rfl) (fun _ _ _ h => h) (Or.inr ⟨by rfl, rfl⟩) (by assumption) ?_
        try simp only [Act.put, List.setIfInBounds_toArray, List.set_cons_zero, List.set_cons_succ]
        refine wpAnyH_take (i := 10) (oi := { dst := some 115, op := Op.move (Operand.tmp 8), type := 3, pos := "ref.go:71", after := #[{ on := 7, ground := Ground.guard }], guard := some (7, false) }) (v := _) rfl (by kernel_rfl) (by kernel_rfl) (by kernel_rfl) (fun _ _ _ h => h) (Or.inr ⟨by rfl, rfl⟩) (by assumption) ?_
        try simp only [Act.put, List.setIfInBounds_toArray, List.set_cons_zero, List.set_cons_succ]
        refine wpAnyH_take (i := 11) (oi := { dst := some 116, op := Op.indexAddr 26 (Operand.tmp 114) (Operand.tmp 115), type := 0, pos := "ref.go:71", after := #[{ on := 9, ground := Ground.data }, { on := 10, ground := Ground.data }, { on := 7, ground := Ground.guard }], guard := some (7, false) }) (v := _) rfl (by kernel_rfl) (by kernel_rfl) (by kernel_rfl) (fun _ _ _ h => h) (Or.inr ⟨by rfl, rfl⟩) (by assumption) ?_
        try simp only [Act.put, List.setIfInBounds_toArray, List.set_cons_zero, List.set_cons_succ]
        refine wpAnyH_take (i := 12) (oi := { dst := some 117, op := Op.fieldAddr 67 (Operand.tmp 116) 1, type := 0, pos := "ref.go:71", after := #[{ on := 11, ground := Ground.data }, { on := 7, ground := Ground.guard }], guard := some (7, false) }) (v := _) rfl (by kernel_rfl) (by kernel_rfl) (by kernel_rfl) (fun _ _ _ h => h) (Or.inr ⟨by rfl, rfl⟩) (by assumption) ?_
        try simp only [Act.put, List.setIfInBounds_toArray, List.set_cons_zero, List.set_cons_succ]
        refine wpAnyH_take (i := 13) (oi := { dst := some 118, op := Op.load 22 (Operand.tmp 117), type := 22, pos := "ref.go:71", after := #[{ on := 12, ground := Ground.data }, { on := 7, ground := Ground.guard }], guard := some (7, false) }) (v := _) rfl (by kernel_rfl) (by kernel_rfl) (by kernel_rfl) (fun _ _ _ h => h) (Or.inr ⟨by rfl, rfl⟩) (by assumption) ?_
        try simp only [Act.put, List.setIfInBounds_toArray, List.set_cons_zero, List.set_cons_succ]
        refine wpAnyH_take (i := 14) (oi := { dst := some 119, op := Op.binOp BinOp.eql 22 (Operand.tmp 118) (Operand.const (Value.int IntKind.u64 0)) 22, type := 4, pos := "ref.go:71", after := #[{ on := 13, ground := Ground.data }, { on := 7, ground := Ground.guard }], guard := some (7, false) }) (v := _) rfl (by kernel_rfl) (by kernel_rfl) (by kernel_rfl) (fun _ _ _ h => h) (Or.inr ⟨by rfl, rfl⟩) (by assumption) ?_
        try simp only [Act.put, List.setIfInBounds_toArray, List.set_cons_zero, List.set_cons_succ]
        refine wpAnyH_take (i := 15) (oi := { dst := some 120, op := Op.fieldAddr 29 (Operand.tmp 1) 0, type := 0, pos := "ref.go:71", after := #[{ on := 7, ground := Ground.guard }], guard := some (7, false) }) (v := _) rfl (by kernel_rfl) (by kernel_rfl) (by kernel_rfl) (fun _ _ _ h => h) (Or.inr ⟨by rfl, rfl⟩) (by assumption) ?_
        try simp only [Act.put, List.setIfInBounds_toArray, List.set_cons_zero, List.set_cons_succ]
        refine wpAnyH_take (i := 16) (oi := { dst := some 121, op := Op.load 5 (Operand.tmp 120), type := 5, pos := "ref.go:71", after := #[{ on := 15, ground := Ground.data }, { on := 7, ground := Ground.guard }], guard := some (7, false) }) (v := _) rfl (by kernel_rfl) (by kernel_rfl) (by kernel_rfl) (fun _ _ _ h => h) (Or.inr ⟨by rfl, rfl⟩) (by assumption) ?_
        try simp only [Act.put, List.setIfInBounds_toArray, List.set_cons_zero, List.set_cons_succ]
        refine wpAnyH_take (i := 17) (oi := { dst := some 122, op := Op.binOp BinOp.eql 5 (Operand.tmp 121) (Operand.const (Value.int IntKind.u8 4)) 5, type := 4, pos := "ref.go:71", after := #[{ on := 16, ground := Ground.data }, { on := 7, ground := Ground.guard }], guard := some (7, false) }) (v := _) rfl (by kernel_rfl) (by kernel_rfl) (by kernel_rfl) (fun _ _ _ h => h) (Or.inr ⟨by rfl, rfl⟩) (by assumption) ?_
        try simp only [Act.put, List.setIfInBounds_toArray, List.set_cons_zero, List.set_cons_succ]
        refine wpAnyH_take (i := 18) (oi := { dst := some 123, op := Op.binOp BinOp.neq 4 (Operand.tmp 119) (Operand.tmp 122) 4, type := 4, pos := "ref.go:71", after := #[{ on := 14, ground := Ground.data }, { on := 17, ground := Ground.data }, { on := 7, ground := Ground.guard }], guard := some (7, false) }) (v := _) rfl (by kernel_rfl) (by kernel_rfl) (by kernel_rfl) (fun _ _ _ h => h) (Or.inr ⟨by rfl, rfl⟩) (by assumption) ?_
        try simp only [Act.put, List.setIfInBounds_toArray, List.set_cons_zero, List.set_cons_succ]
        refine wpAnyH_take (i := 19) (oi := { dst := some 124, op := Op.pick (Operand.tmp 112) (Operand.const (Value.bool true)) (Operand.tmp 123), type := 4, pos := "ref.go:71", after := #[{ on := 7, ground := Ground.data }, { on := 18, ground := Ground.data }], guard := none }) (v := ?_) rfl (by kernel_rfl) (by kernel_rfl) (by kernel_rfl) (fun _ _ _ h => h) (Or.inl ⟨by rfl, ?_⟩) (by assumption) ?_
        rotate_left
        · intro w9 hSw
          obtain ⟨⟨f0, f4, f6⟩, g0, g1, g2, g3, g4, g5, g6, g7, g8, g9, g10, g11⟩ := hSw
          go_simp
          try with_reducible rfl
        try simp only [Act.put, List.setIfInBounds_toArray, List.set_cons_zero, List.set_cons_succ]
        refine wpAnyH_done (by kernel_rfl) ?_ _
        go_wp2_with fail
        go_ret
        exact ⟨rfl, (below_drew1 HWR.out.2.1).trans (hx.mono (below_drew1 HWR.out.2.1).size)⟩
      | true =>
      cases hik : (iz == k4) with
      | false =>
        obtain rfl : E = 130 := HNO.out (fun c => by have := c.2.2.2.1 j hlt; rw [HDP.out, hik] at this; cases this)
        have hik2 : (iz != k4) = true := by rw [bne, hik]; rfl
        go_wp2_with fail
        go_region_held3 (fun w' => (w'.cell? ⟨w.heap.size, 0, none⟩ = some (.int .u8 k) ∧ w'.cell? ⟨w.heap.size, 4, none⟩ = some (.string xg) ∧ w'.cell? ⟨w.heap.size, 6, none⟩ = some (.slice (some ⟨d, o, none⟩) cs.length c1)) ∧ (w'.cell? ⟨d, o + j * 12, none⟩ = some (.string cs[j].e.q) ∧ w'.cell? ⟨d, o + j * 12 + 1, none⟩ = some (.int .u64 cs[j].e.id) ∧ w'.cell? ⟨d, o + j * 12 + 2, none⟩ = some (.string cs[j].e.p.key) ∧ w'.cell? ⟨d, o + j * 12 + 3, none⟩ = some (.bool cs[j].e.p.dur) ∧ w'.cell? ⟨d, o + j * 12 + 4, none⟩ = some (.bool cs[j].e.p.red) ∧ w'.cell? ⟨d, o + j * 12 + 5, none⟩ = some (.string cs[j].e.p.id) ∧ w'.cell? ⟨d, o + j * 12 + 6, none⟩ = some (.int .u8 cs[j].x.k) ∧ w'.cell? ⟨d, o + j * 12 + 7, none⟩ = some (.int .u64 cs[j].x.n) ∧ w'.cell? ⟨d, o + j * 12 + 8, none⟩ = some (.string cs[j].x.s) ∧ w'.cell? ⟨d, o + j * 12 + 9, none⟩ = some (.slice cs[j].x.a3 cs[j].x.n3 cs[j].x.c3) ∧ w'.cell? ⟨d, o + j * 12 + 10, none⟩ = some (.slice cs[j].x.a4 cs[j].x.n4 cs[j].x.c4) ∧ w'.cell? ⟨d, o + j * 12 + 11, none⟩ = some (.string cs[j].e.body))) (first | with_reducible exact HKEEP.out _ (below_drew1 (Below.refl _ _)) | exact HKEEP.out _ ((below_drew1 (Below.refl _ _)).trans hx))
          (first
            | (go_at_call 61
               refine HMAY.out.mono ?_
               rintro e wx ⟨rfl, hx⟩))
        all_goals
          go_wp2_with fail
          go_ret
          exact ⟨rfl, (below_drew1 HWR.out.2.1).trans (hx.mono (below_drew1 HWR.out.2.1).size)⟩
      | true =>
        have hik2 : (iz != k4) = false := by rw [bne, hik]; rfl
        have HS := Lib.hid (show ∀ j' (h : j' < cs.length), j' < j + 1 → dput k cs[j'].e = true from fun j' hj' h => by
          by_cases c : j' < j
          · exact HWR.out.2.2 j' hj' c
          · obtain rfl : j' = j := by omega
            rw [HDP.out, hik]; rfl)
        go_wp2_with fail
        go_region_held3 (fun w' => (w'.cell? ⟨w.heap.size, 0, none⟩ = some (.int .u8 k) ∧ w'.cell? ⟨w.heap.size, 4, none⟩ = some (.string xg) ∧ w'.cell? ⟨w.heap.size, 6, none⟩ = some (.slice (some ⟨d, o, none⟩) cs.length c1)) ∧ (w'.cell? ⟨d, o + j * 12, none⟩ = some (.string cs[j].e.q) ∧ w'.cell? ⟨d, o + j * 12 + 1, none⟩ = some (.int .u64 cs[j].e.id) ∧ w'.cell? ⟨d, o + j * 12 + 2, none⟩ = some (.string cs[j].e.p.key) ∧ w'.cell? ⟨d, o + j * 12 + 3, none⟩ = some (.bool cs[j].e.p.dur) ∧ w'.cell? ⟨d, o + j * 12 + 4, none⟩ = some (.bool cs[j].e.p.red) ∧ w'.cell? ⟨d, o + j * 12 + 5, none⟩ = some (.string cs[j].e.p.id) ∧ w'.cell? ⟨d, o + j * 12 + 6, none⟩ = some (.int .u8 cs[j].x.k) ∧ w'.cell? ⟨d, o + j * 12 + 7, none⟩ = some (.int .u64 cs[j].x.n) ∧ w'.cell? ⟨d, o + j * 12 + 8, none⟩ = some (.string cs[j].x.s) ∧ w'.cell? ⟨d, o + j * 12 + 9, none⟩ = some (.slice cs[j].x.a3 cs[j].x.n3 cs[j].x.c3) ∧ w'.cell? ⟨d, o + j * 12 + 10, none⟩ = some (.slice cs[j].x.a4 cs[j].x.n4 cs[j].x.c4) ∧ w'.cell? ⟨d, o + j * 12 + 11, none⟩ = some (.string cs[j].e.body))) (first | with_reducible exact HKEEP.out _ (below_drew1 (Below.refl _ _)) | exact HKEEP.out _ ((below_drew1 (Below.refl _ _)).trans hx))
          (first
            | (go_at_call 61
               refine HMAY.out.mono ?_
               rintro e wx ⟨rfl, hx⟩))
        all_goals
          go_wp2_with fail
          go_roundw
          case rel => exact ⟨j + 1, by omega, by go_num, (below_drew1 HWR.out.1).trans (hx.mono (below_drew1 HWR.out.1).size), HS.out⟩
          case measure => simp [intOf]; omega
    · have b1 : ¬ (j : Int) < (cs.length : Int) := by omega
      have HALL := Lib.hid (show ∀ j' (h : j' < cs.length), dput k cs[j'].e = true from fun j' h => hall j' h (by omega))
      clear hall e0 e1 e2 e3 e4 e5 e7
      go_wp2_with fail
      clear e6
      go_loopw [9] (fun iv wr2 => ∃ j : Nat, j ≤ rs.length ∧ iv = .int .i64 j ∧ Below W1.heap.size W1 wr2 ∧ ∀ j' (h : j' < rs.length), j' < j → refMay rs[j'] = true) (fun i _ => rs.length - (intOf i).toNat)
      case atStart => exact ⟨0, by omega, rfl, hbr, fun _ _ h => absurd h (by omega)⟩
      case round =>
        clear hbr hwr hj b1
        obtain ⟨j, hj, rfl, hbr, hall⟩ := hrel
        have hwr := HB.out.trans (hbr.mono HB.out.size)
        obtain ⟨⟨e0, e1, e2⟩, ⟨e3, e4, e5⟩, e6, e7⟩ := (HBX.out.kept hbr (Nat.le_refl _)).cells
        simp only [] at e0 e1 e2 e3 e4 e5 e6 e7
        clear e0 e1 e2 e3 e4 e5 e6
        by_cases hlt : j < rs.length
        · have b1 : (j : Int) < (rs.length : Int) := by omega
          have hj0 : (0 : Int) ≤ (j : Int) := by omega
          obtain ⟨d, o, hA, hd, f0, f1⟩ := HRA.out _ hwr j hlt
          subst hA
          have HDP := Lib.hid (show refMay rs[j] = (qnOK rs[j].q && msgOK rs[j].id) from rfl)
          have hq1 := HRQ.out j hlt
          have hq2 := HRM.out j hlt
          generalize qnOK rs[j].q = qm at *
          generalize msgOK rs[j].id = mm at *
          have HQ1 := Lib.hid hq1
          have HQ2 := Lib.hid hq2
          have HWR := Lib.hid (And.intro hbr (And.intro hwr hall))
          clear hq1 hq2 hbr hwr hall hd
          go_wp2_with fail
          refine (HQ1.out _).mono ?_
          rintro e w9 ⟨rfl, hw9⟩
          rw [hw9]
          clear hw9
          cases qm with
          | false =>
            obtain rfl : E = 130 := HNO.out (fun c => by have := c.2.2.2.2 j hlt; rw [HDP.out] at this; cases this)
            go_wp2_with fail
            go_ret
            exact ⟨rfl, HWR.out.2.1⟩
          | true =>
          go_wp2_with fail
          refine (HQ2.out _).mono ?_
          rintro e w9 ⟨rfl, hw9⟩
          rw [hw9]
          clear hw9
          cases mm with
          | false =>
            obtain rfl : E = 130 := HNO.out (fun c => by have := c.2.2.2.2 j hlt; rw [HDP.out] at this; cases this)
            go_wp2_with fail
            go_ret
            exact ⟨rfl, HWR.out.2.1⟩
          | true =>
            have HS := Lib.hid (show ∀ j' (h : j' < rs.length), j' < j + 1 → refMay rs[j'] = true from fun j' hj' h => by
              by_cases c : j' < j
              · exact HWR.out.2.2 j' hj' c
              · obtain rfl : j' = j := by omega
                rw [HDP.out]; rfl)
            go_wp2_with fail
            go_roundw
            case rel => exact ⟨j + 1, by omega, by go_num, HWR.out.1, HS.out⟩
            case measure => simp [intOf]; omega
        · have b1 : ¬ (j : Int) < (rs.length : Int) := by omega
          have h5 := HD.out.2.2.2.2.1
          have h6 := HD.out.2.2.2.2.2
          rw [eq_comm, decide_eq_false_iff_not] at h5 h6
          obtain rfl : E = 0 := HOK.out ⟨⟨by trivial, by omega, by omega⟩, ⟨by trivial, by trivial⟩, ⟨by trivial, HL.out⟩, HALL.out, fun j' h => hall j' h (by omega)⟩
          clear h5 h6 hall
          go_wp2_with fail
          go_ret
          exact ⟨rfl, hwr⟩
end Go.Proofs.YtdklhcmoilcpgaaGreat
namespace Go.Proofs.YtdklhcmoilcpgaaGreat
open Go.RowKit
set_option maxRecDepth 100000
theorem u64_id {n : Nat} (h : n < 18446744073709551616) : IntKind.u64.wrap (n : Int) = ((n : Nat) : Int) := by
 rw [IntKind.wrap_u64]
 omega
set_option maxHeartbeats 4000000 in
theorem qeput_no (x : EntC) (w : World) (h : ShowsE w x) (hv : ¬ validE x.e) :
  Calls Tryz.prog 12 #[entV x] w fun e w' => e = .returned (.tuple #[.string (putE x.e), .int .i64 (errE x.e)]) ∧ Below w.heap.size w w' := by
 have HCK := Lib.hid (fun w' (hb : Below w.heap.size w w') => qecheck_any x w' (h.kept hb (Nat.le_refl _)))
 rw [putE_no hv]
 rw [errE_no hv] at HCK ⊢
 have hX := BoxE.new (x := x) w
 obtain ⟨k, name, n, xf, xg, xh, A1, c1, cs, A2, c2, rs⟩ := x
 unfold entV at *
 simp only [] at *
 have hB := below_boxV w (Obj.cells #[.int .u8 k, .string name, .int .u64 n, .int .u32 xf, .string xg, .string xh, .slice A1 cs.length c1, .slice A2 rs.length c2] 29)
 obtain ⟨⟨e0, e1, e2⟩, ⟨e3, e4, e5⟩, e6, e7⟩ := hX.cells
 simp only [] at e0 e1 e2 e3 e4 e5 e6 e7
 have HB := Lib.hid hB
 clear h hv hX hB
 go_enter Tryz.func12, Tryz.ntmps12
 go_wp2_with fail
 refine (HCK.out _ HB.out).mono ?_
 rintro e w1 ⟨rfl, hb1⟩
 go_wp2_with fail
 go_ret2
 exact ⟨rfl, HB.out.trans (hb1.mono HB.out.size)⟩
set_option maxHeartbeats 16000000 in
theorem qeput_yes (x : EntC) (w : World) (h : ShowsE w x) (hv : validE x.e) :
  Calls Tryz.prog 12 #[entV x] w fun e w' => e = .returned (.tuple #[.string (str8 (encE x.e)), .int .i64 0]) ∧ Below w.heap.size w w' := by
 have HCK := Lib.hid (fun w' (hb : Below w.heap.size w w') => qecheck_any x w' (h.kept hb (Nat.le_refl _)))
 rw [errE_ok hv] at HCK
 obtain ⟨v1, v2, v3, v4, v5⟩ := hv
 have hle := (show (nameB x.e).length ≤ 41 ∧ (numB x.e).length ≤ 8 ∧ (xidB x.e).length ≤ 134 from ⟨nameB_le v2, numB_le _, xidB_le v4⟩)
 have HR := Lib.hid (fun w' => qrow_any x.k w')
 have HN1 := Lib.hid (fun w' => (show Calls Tryz.prog 24 #[.int .u64 x.k, .int .i64 1] w' fun e w'' => e = .returned (.string (str8 (be 1 x.k))) ∧ Below w'.heap.size w' w'' from qnumber_any 1 x.k w' (by omega) (by have := h.k; omega)))
 have hnm : uName x.k = true → nameB x.e = be 1 x.name.size ++ sb x.name ∧ x.name.size ≤ 40 := fun hu => ⟨if_pos hu, by have v2' : qnOK x.e.name = true := (if_pos hu : nameIs x.e = _) ▸ v2; exact (qn_size v2').2⟩
 have hnm0 : uName x.k = false → nameB x.e = [] := fun hu => if_neg (by show ¬ uName x.k = true; rw [hu]; decide)
 have hnn : uNum x.k = true → numB x.e = be 8 x.n := fun hu => if_pos hu
 have hnn0 : uNum x.k = false → numB x.e = [] := fun hu => if_neg (by show ¬ uNum x.k = true; rw [hu]; decide)
 have hnx : uX x.k = true → xidB x.e = encX x.xf x.xg x.xh ∧ mayX x.xg x.xh := fun hu => ⟨if_pos hu, (if_pos hu : xidIs x.e = _) ▸ v4⟩
 have hnx0 : uX x.k = false → xidB x.e = [] := fun hu => if_neg (by show ¬ uX x.k = true; rw [hu]; decide)
 have hwk0 : uWork x.k = false → workB x.e = [] := fun hu => if_neg (by show ¬ uWork x.k = true; rw [hu]; decide)
 have hwk : uWork x.k = true → workB x.e = rowB putB (esOf x.cs) ++ rowB refB x.rs ∧ (x.cs.length ≤ 100 ∧ x.rs.length ≤ 100) ∧ (∀ j (h : j < x.cs.length), putMay (decide (x.k = 3)) x.cs[j].e) ∧ (∀ j (h : j < x.rs.length), refMay x.rs[j] = true) := fun hu => by
  have v5' : workOK x.e := (if_pos hu : workIs x.e = _) ▸ v5
  obtain ⟨a1, a2, a3, a4⟩ := v5'
  refine ⟨if_pos hu, ⟨by have e : x.e.puts = esOf x.cs := rfl; rw [e, esOf_len] at a1; exact a1, a2⟩, fun j hj => a3 _ (List.mem_map.2 ⟨x.cs[j], List.getElem_mem hj, rfl⟩), fun j hj => a4 _ (List.getElem_mem hj)⟩
 have HNM := Lib.hid (fun (hu : uName x.k = true) w' => qtext13_any x.name w' (by have := (hnm hu).2; omega))
 have HN8 := Lib.hid (fun w' => (show Calls Tryz.prog 24 #[.int .u64 x.n, .int .i64 8] w' fun e w'' => e = .returned (.string (str8 (be 8 x.n))) ∧ Below w'.heap.size w' w'' from qnumber_any 8 x.n w' (by omega) h.n))
 have HPX := Lib.hid (fun (hu : uX x.k = true) w' => qputX_ok x.xf x.xg x.xh w' (hnx hu).2 h.xf)
 have HNP := Lib.hid (fun w' => (show Calls Tryz.prog 24 #[.int .u64 x.cs.length, .int .i64 1] w' fun e w'' => e = .returned (.string (str8 (be 1 x.cs.length))) ∧ Below w'.heap.size w' w'' from qnumber_any 1 x.cs.length w' (by omega) (by have := h.puts.lm; omega)))
 have HNT := Lib.hid (fun w' => (show Calls Tryz.prog 24 #[.int .u64 x.rs.length, .int .i64 1] w' fun e w'' => e = .returned (.string (str8 (be 1 x.rs.length))) ∧ Below w'.heap.size w' w'' from qnumber_any 1 x.rs.length w' (by omega) (by have := h.takes.lm; omega)))
 have HPA := Lib.hid (fun w' (hb : Below w.heap.size w w') => (h.puts.kept hb (Nat.le_refl _)).at_)
 have HRA := Lib.hid (fun w' (hb : Below w.heap.size w w') => (h.takes.kept hb (Nat.le_refl _)).at_)
 have HPP := Lib.hid (fun j (hj : j < x.cs.length) w' (hb : Below w.heap.size w w') => qpput_any x.cs[j].e.p _ _ _ _ _ w' ((h.puts.each j hj).pr.kept hb (Nat.le_refl _)))
 have HQT := Lib.hid (fun (q : ByteArray) (hq : qnOK q = true) w' => qtext13_any q w' (by have := (qn_size hq).2; omega))
 have HD8 := Lib.hid (fun (d : Nat) (hd : d < 18446744073709551616) w' => (show Calls Tryz.prog 24 #[.int .u64 d, .int .i64 8] w' fun e w'' => e = .returned (.string (str8 (be 8 d))) ∧ Below w'.heap.size w' w'' from qnumber_any 8 d w' (by omega) hd))
 have HD4 := Lib.hid (fun (d : Nat) (hd : d < 18446744073709551616) w' => (show Calls Tryz.prog 24 #[.int .u64 d, .int .i64 4] w' fun e w'' => e = .returned (.string (str8 (be 4 d))) ∧ Below w'.heap.size w' w'' from qnumber_any 4 d w' (by omega) hd))
 have HD2 := Lib.hid (fun (d : Nat) (hd : d < 18446744073709551616) w' => (show Calls Tryz.prog 24 #[.int .u64 d, .int .i64 2] w' fun e w'' => e = .returned (.string (str8 (be 2 d))) ∧ Below w'.heap.size w' w'' from qnumber_any 2 d w' (by omega) hd))
 have HEN := Lib.hid (show encE x.e = be 1 x.k ++ nameB x.e ++ numB x.e ++ xidB x.e ++ workB x.e from rfl)
 have HEACH := Lib.hid (fun j (hj : j < x.cs.length) => And.intro (h.puts.each j hj).q (And.intro (h.puts.each j hj).id (h.puts.each j hj).body))
 have HEACR := Lib.hid (fun j (hj : j < x.rs.length) => h.takes.each j hj)
 have HLM := Lib.hid (And.intro h.puts.lm h.takes.lm)
 have hwk8 : IntKind.u64.wrap (x.k : Int) = ((x.k : Nat) : Int) := u64_id (by have := h.k; omega)
 have hwcs : IntKind.u64.wrap (x.cs.length : Int) = ((x.cs.length : Nat) : Int) := u64_id (by have := h.puts.lm; omega)
 have hwrs : IntKind.u64.wrap (x.rs.length : Int) = ((x.rs.length : Nat) : Int) := u64_id (by have := h.takes.lm; omega)
 have HF := Lib.hid (And.intro hnm (And.intro hnm0 (And.intro hnn (And.intro hnn0 (And.intro hnx (And.intro hnx0 (And.intro hwk0 hwk)))))))
 clear hnm hnm0 hnn hnn0 hnx hnx0 hwk0 hwk v1 v2 v3 v4 v5
 obtain ⟨ENC, hENC⟩ : ∃ ENC, ENC = encE x.e := ⟨_, rfl⟩
 rw [← hENC] at HEN ⊢
 clear hENC
 generalize nameB x.e = NB at *
 generalize numB x.e = UB at *
 generalize xidB x.e = XB at *
 generalize workB x.e = WB at *
 have hX := BoxE.new (x := x) w
 obtain ⟨k, name, n, xf, xg, xh, A1, c1, cs, A2, c2, rs⟩ := x
 unfold entV at *
 unfold xidV at HPX
 simp only [] at *
 have hB := below_boxV w (Obj.cells #[.int .u8 k, .string name, .int .u64 n, .int .u32 xf, .string xg, .string xh, .slice A1 cs.length c1, .slice A2 rs.length c2] 29)
 obtain ⟨W1, hW1⟩ : ∃ W1, W1 = w.alloc (Obj.cells #[.int .u8 k, .string name, .int .u64 n, .int .u32 xf, .string xg, .string xh, .slice A1 cs.length c1, .slice A2 rs.length c2] 29) := ⟨_, rfl⟩
 rw [← hW1] at hB hX
 have HB := Lib.hid hB
 have HX := Lib.hid hX
 obtain ⟨⟨e0, e1, e2⟩, ⟨e3, e4, e5⟩, e6, e7⟩ := hX.cells
 simp only [] at e0 e1 e2 e3 e4 e5 e6 e7
 have hlen1 : (be 1 k).length = 1 := be_length 1 k
 have HLE := Lib.hid (And.intro hle hlen1)
 clear h hX hB hle hlen1
 generalize be 1 k = B0 at *
 generalize uName k = u1 at *
 generalize uNum k = u2 at *
 generalize uX k = u3 at *
 generalize uWork k = u4 at *
 go_enter Tryz.func12, Tryz.ntmps12
 go_upto_region 1 with fail
 rw [← hW1]
 clear hW1
 go_wp2_with fail
 refine (HCK.out _ HB.out).mono ?_
 rintro e w1 ⟨rfl, hb1⟩
 clear e0 e1 e2 e3 e4 e5 e6 e7
 obtain ⟨⟨e0, e1, e2⟩, ⟨e3, e4, e5⟩, e6, e7⟩ := (HX.out.kept hb1 (Nat.le_refl _)).cells
 simp only [] at e0 e1 e2 e3 e4 e5 e6 e7
 go_wp2_with fail
 refine (HR.out _).mono ?_
 rintro e w9 ⟨rfl, hw9⟩
 rw [hw9]
 clear hw9
 go_wp2_with fail
 refine (HN1.out _).mono ?_
 rintro e w2 ⟨rfl, hb2⟩
 have hb12 := hb1.trans (hb2.mono hb1.size)
 clear e0 e1 e2 e3 e4 e5 e6 e7
 obtain ⟨⟨e0, e1, e2⟩, ⟨e3, e4, e5⟩, e6, e7⟩ := (HX.out.kept hb12 (Nat.le_refl _)).cells
 simp only [] at e0 e1 e2 e3 e4 e5 e6 e7
 go_upto_if 33 with fail
 go_cut [9] from 33 to 38 (fun v wx => v = .string (str8 (B0 ++ NB)) ∧ Below W1.heap.size W1 wx)
 case first =>
  cases u1 with
  | true =>
   have hz : ¬ 9223372036854775807 < (str8 B0).size + (str8 (be 1 name.size ++ sb name)).size := by rw [str8_size, str8_size, ← (HF.out.1 (by trivial)).1]; have := HLE.out; omega
   go_wp2_with fail
   refine (HNM.out (by trivial) _).mono ?_
   rintro e w3 ⟨rfl, hb3⟩
   go_wp2_with fail
   go_meet
   case rel => exact ⟨by rw [(HF.out.1 (by trivial)).1, str8_app9], hb12.trans (hb3.mono hb12.size)⟩
  | false =>
   go_wp2_with fail
   go_meet
   case rel => exact ⟨by rw [HF.out.2.1 (by trivial), List.append_nil], hb12⟩
 case rest =>
 obtain ⟨rfl, hbc1⟩ := hcut
 clear e0 e1 e2 e3 e4 e5 e6 e7
 obtain ⟨⟨e0, e1, e2⟩, ⟨e3, e4, e5⟩, e6, e7⟩ := (HX.out.kept hbc1 (Nat.le_refl _)).cells
 simp only [] at e0 e1 e2 e3 e4 e5 e6 e7
 go_upto_if 39 with fail
 go_cut [9] from 39 to 44 (fun v wx => v = .string (str8 (B0 ++ (NB ++ UB))) ∧ Below W1.heap.size W1 wx)
 case first =>
  cases u2 with
  | true =>
   have hz : ¬ 9223372036854775807 < (str8 (B0 ++ NB)).size + (str8 (be 8 n)).size := by rw [str8_size, str8_size, be_length, List.length_append]; have := HLE.out; omega
   go_wp2_with fail
   refine (HN8.out _).mono ?_
   rintro e w3 ⟨rfl, hb3⟩
   go_wp2_with fail
   go_meet
   case rel => exact ⟨by rw [HF.out.2.2.1 (by trivial), str8_app9, List.append_assoc], hbc1.trans (hb3.mono hbc1.size)⟩
  | false =>
   go_wp2_with fail
   go_meet
   case rel => exact ⟨by rw [HF.out.2.2.2.1 (by trivial), List.append_nil], hbc1⟩
 case rest =>
 obtain ⟨rfl, hbc2⟩ := hcut
 clear e0 e1 e2 e3 e4 e5 e6 e7
 obtain ⟨⟨e0, e1, e2⟩, ⟨e3, e4, e5⟩, e6, e7⟩ := (HX.out.kept hbc2 (Nat.le_refl _)).cells
 simp only [] at e0 e1 e2 e3 e4 e5 e6 e7
 go_upto_if 45 with fail
 go_cut [9] from 45 to 55 (fun v wx => v = .string (str8 (B0 ++ (NB ++ (UB ++ XB)))) ∧ Below W1.heap.size W1 wx)
 case first =>
  cases u3 with
  | true =>
   have hz : ¬ 9223372036854775807 < (str8 (B0 ++ (NB ++ UB))).size + (str8 (encX xf xg xh)).size := by rw [str8_size, str8_size, List.length_append, List.length_append, ← (HF.out.2.2.2.2.1 (by trivial)).1]; have := HLE.out; omega
   go_wp2_with fail
   refine (HPX.out (by trivial) _).mono ?_
   rintro e w3 ⟨v3, rfl, ho3, hb3⟩
   obtain ⟨g3, _, hs3⟩ := ho3.shows
   have hcv := conv_at hs3
   clear ho3 hs3
   go_wp2_with fail
   go_meet
   case rel => exact ⟨by rw [(HF.out.2.2.2.2.1 (by trivial)).1, str8_app9, List.append_assoc, List.append_assoc], hbc2.trans (hb3.mono hbc2.size)⟩
  | false =>
   go_wp2_with fail
   go_meet
   case rel => exact ⟨by rw [HF.out.2.2.2.2.2.1 (by trivial), List.append_nil], hbc2⟩
 case rest =>
 obtain ⟨rfl, hbc3⟩ := hcut
 clear e0 e1 e2 e3 e4 e5 e6 e7
 obtain ⟨⟨e0, e1, e2⟩, ⟨e3, e4, e5⟩, e6, e7⟩ := (HX.out.kept hbc3 (Nat.le_refl _)).cells
 simp only [] at e0 e1 e2 e3 e4 e5 e6 e7
 cases u4 with
 | false =>
  have HFN := Lib.hid (show str8 (B0 ++ (NB ++ (UB ++ XB))) = str8 ENC by rw [HEN.out, HF.out.2.2.2.2.2.2.1 (by trivial), List.append_nil]; simp only [List.append_assoc])
  go_wp2_with fail
  go_ret2
  exact ⟨by rw [← HFN.out]; rfl, HB.out.trans (hbc3.mono HB.out.size)⟩
 | true =>
 obtain ⟨hWB, ⟨hl1, hl2⟩, hMP, hMR⟩ := HF.out.2.2.2.2.2.2.2 (by trivial)
 have HWB := Lib.hid hWB
 have HMP := Lib.hid hMP
 have HMR := Lib.hid hMR
 have HHL := Lib.hid (show (B0 ++ (NB ++ (UB ++ XB))).length ≤ 200 by simp only [List.length_append]; have := HLE.out; omega)
 have HL12 := Lib.hid (And.intro hl1 hl2)
 clear hWB hMP hMR hl1 hl2
 have HENH := Lib.hid (show ENC = (B0 ++ (NB ++ (UB ++ XB))) ++ WB by rw [HEN.out]; simp only [List.append_assoc])
 clear HEN
 generalize B0 ++ (NB ++ (UB ++ XB)) = H at *
 have hz : ¬ 9223372036854775807 < (str8 H).size + (str8 (be 1 cs.length)).size := by rw [str8_size, str8_size, be_length]; have := HHL.out; omega
 go_wp2_with fail
 refine (HNP.out _).mono ?_
 rintro e w4 ⟨rfl, hb4⟩
 have hbc4 := hbc3.trans (hb4.mono hbc3.size)
 clear e0 e1 e2 e3 e4 e5 e6 e7
 go_wp2_with fail
 go_loopw [9, 12] (fun sv iv wr => ∃ (j : Nat) (S : ByteArray), j ≤ cs.length ∧ sv = .string S ∧ iv = .int .i64 j ∧ S = str8 (H ++ (be 1 cs.length ++ ((esOf cs).take j).flatMap putB)) ∧ Below W1.heap.size W1 wr) (fun _ i _ => cs.length - (intOf i).toNat)
 case atStart => exact ⟨0, _, by omega, rfl, rfl, by rw [str8_app9, List.take_zero, List.flatMap_nil, List.append_nil], hbc4⟩
 case round =>
  rename World => wr
  clear hz hbc4 hbc3 hbc2 hbc1
  have hlc := HLM.out.1
  obtain ⟨j, S, hj, rfl, rfl, hS, hbr⟩ := hrel
  have hwr := HB.out.trans (hbr.mono HB.out.size)
  obtain ⟨⟨e0, e1, e2⟩, ⟨e3, e4, e5⟩, e6, e7⟩ := (HX.out.kept hbr (Nat.le_refl _)).cells
  simp only [] at e6 e7
  clear e0 e1 e2 e3 e4 e5
  have hSl : S.size ≤ 1300000 := by
   rw [hS, str8_size]
   have h1 := flat_le putB 12343 ((esOf cs).take j) (fun p hp => by
    obtain ⟨c, hc, rfl⟩ := List.mem_map.1 (List.mem_of_mem_take hp)
    obtain ⟨i, hi, rfl⟩ := List.getElem_of_mem hc
    exact putB_le (HMP.out i hi))
   have h2 : ((esOf cs).take j).length ≤ 100 := by rw [List.length_take, esOf_len]; have := HL12.out; omega
   simp only [List.length_append, be_length]
   have := HHL.out
   have h3 : ((esOf cs).take j).length * 12343 ≤ 100 * 12343 := Nat.mul_le_mul_right _ h2
   omega
  by_cases hlt : j < cs.length
  ·have b1 : (j : Int) < (cs.length : Int) := by omega
   have hj0 : (0 : Int) ≤ (j : Int) := by omega
   obtain ⟨d, o, hA, hd, ⟨t0, t1, t2, t3, t4, t5⟩, t6, t7, t8, t9, t10, t11⟩ := HPA.out _ hwr j hlt
   subst hA
   obtain ⟨hpn, hq, hbody, hpr, hpl⟩ := HMP.out j hlt
   have hB5 := below_boxV wr (Obj.cells #[.string cs[j].e.q, .int .u64 cs[j].e.id, .string cs[j].e.p.key, .bool cs[j].e.p.dur, .bool cs[j].e.p.red, .string cs[j].e.p.id, .int .u8 cs[j].x.k, .int .u64 cs[j].x.n, .string cs[j].x.s, .slice cs[j].x.a3 cs[j].x.n3 cs[j].x.c3, .slice cs[j].x.a4 cs[j].x.n4 cs[j].x.c4, .string cs[j].e.body] 67)
   have hX5 := BoxT.new (c := cs[j]) wr
   have hpp := HPP.out j hlt
   rw [errP_ok hpr] at hpp
   obtain ⟨PS, hPS⟩ : ∃ PS, PS = putPr cs[j].e.p := ⟨_, rfl⟩
   rw [← hPS] at hpp
   unfold propV at hpp
   have hPS2 : PS = str8 (encPr cs[j].e.p) := hPS.trans (if_pos hpr)
   have hPSz : PS.size = (encPr cs[j].e.p).length := by rw [hPS2, str8_size]
   have hbz := (HEACH.out j hlt).2.2
   have hT1c := HQT.out cs[j].e.q hq
   have hT2c := HD8.out cs[j].e.id (HEACH.out j hlt).2.1
   have hT3c := HD4.out PS.size (by omega)
   have hT4c := HD2.out cs[j].e.body.size (by omega)
   have hwp : IntKind.u64.wrap (PS.size : Int) = ((PS.size : Nat) : Int) := u64_id (by omega)
   have hwb : IntKind.u64.wrap (cs[j].e.body.size : Int) = ((cs[j].e.body.size : Nat) : Int) := u64_id (by omega)
   obtain ⟨T1, hT1⟩ : ∃ T1, T1 = str8 (be 1 cs[j].e.q.size ++ sb cs[j].e.q) := ⟨_, rfl⟩
   obtain ⟨T2, hT2⟩ : ∃ T2, T2 = str8 (be 8 cs[j].e.id) := ⟨_, rfl⟩
   obtain ⟨T3, hT3⟩ : ∃ T3, T3 = str8 (be 4 PS.size) := ⟨_, rfl⟩
   obtain ⟨T4, hT4⟩ : ∃ T4, T4 = str8 (be 2 cs[j].e.body.size) := ⟨_, rfl⟩
   rw [← hT1] at hT1c
   rw [← hT2] at hT2c
   rw [← hT3] at hT3c
   rw [← hT4] at hT4c
   have s1 : T1.size ≤ 41 := by rw [hT1, str8_size, List.length_append, be_length, sb_length]; have := (qn_size hq).2; omega
   have s2 : T2.size = 8 := by rw [hT2, str8_size, be_length]
   have s3 : T3.size = 4 := by rw [hT3, str8_size, be_length]
   have s4 : T4.size = 2 := by rw [hT4, str8_size, be_length]
   have HNEXT := Lib.hid (show S ++ T1 ++ T2 ++ T3 ++ PS ++ T4 ++ cs[j].e.body = str8 (H ++ (be 1 cs.length ++ ((esOf cs).take (j + 1)).flatMap putB)) by
    rw [flat_snoc putB (esOf cs) j (by rw [esOf_len]; exact hlt), esOf_get cs j hlt, hS, hT1, hT2, hT3, hT4, hPSz, hPS2, ← str8_sb cs[j].e.body]
    simp only [str8_app9, sb_str8, str8_size]
    unfold putB placeB
    simp only [List.append_assoc, sb_length])
   have z1 : ¬ 9223372036854775807 < S.size + T1.size := by omega
   have z2 : ¬ 9223372036854775807 < S.size + T1.size + T2.size := by omega
   have z3 : ¬ 9223372036854775807 < S.size + T1.size + T2.size + T3.size := by omega
   have z4 : ¬ 9223372036854775807 < S.size + T1.size + T2.size + T3.size + PS.size := by omega
   have z5 : ¬ 9223372036854775807 < S.size + T1.size + T2.size + T3.size + PS.size + T4.size := by omega
   have z6 : ¬ 9223372036854775807 < S.size + T1.size + T2.size + T3.size + PS.size + T4.size + cs[j].e.body.size := by omega
   have HT1 := Lib.hid hT1c
   have HT2 := Lib.hid hT2c
   have HT3 := Lib.hid hT3c
   have HT4 := Lib.hid hT4c
   have HPPJ := Lib.hid hpp
   have HB5 := Lib.hid hB5
   have HX5 := Lib.hid hX5
   have HBR := Lib.hid (And.intro hbr hwr)
   clear hT1c hT2c hT3c hT4c hpp hT1 hT2 hT3 hT4 hPS hPS2 hPSz hS hSl hpn hq hbody hpr hpl hbz s1 s2 s3 s4 hB5 hX5 hd hbr hwr
   go_upto_region 19 with fail
   obtain ⟨W5, hW5⟩ : ∃ W5, W5 = wr.alloc (Obj.cells #[.string cs[j].e.q, .int .u64 cs[j].e.id, .string cs[j].e.p.key, .bool cs[j].e.p.dur, .bool cs[j].e.p.red, .string cs[j].e.p.id, .int .u8 cs[j].x.k, .int .u64 cs[j].x.n, .string cs[j].x.s, .slice cs[j].x.a3 cs[j].x.n3 cs[j].x.c3, .slice cs[j].x.a4 cs[j].x.n4 cs[j].x.c4, .string cs[j].e.body] 67) := ⟨_, rfl⟩
   have hB5 := HB5.out
   have hX5 := HX5.out
   rw [← hW5] at hB5 hX5 ⊢
   clear hW5 HB5 HX5 t0 t1 t2 t3 t4 t5 t6 t7 t8 t9 t10 t11 e6 e7
   obtain ⟨⟨t0, t1, t2, t3, t4, t5⟩, t6, t7, t8, t9, t10, t11⟩ := hX5.cells
   have HX5 := Lib.hid hX5
   have HB5 := Lib.hid (HBR.out.2.trans (hB5.mono HBR.out.2.size))
   have HB6 := Lib.hid (HBR.out.1.trans (hB5.mono HBR.out.1.size))
   clear hX5 hB5
   go_wp2_with fail
   refine (HPPJ.out _ HB5.out).mono ?_
   rintro e w6 ⟨rfl, hb6⟩
   have HX6 := Lib.hid (HX5.out.kept hb6 (Nat.le_refl _))
   have HB7 := Lib.hid (HB6.out.trans (hb6.mono HB6.out.size))
   clear t0 t1 t2 t3 t4 t5 t6 t7 t8 t9 t10 t11 hb6
   have HKEEP := Lib.hid (show ∀ w', Below w6.heap.size w6 w' → w'.cell? ⟨wr.heap.size, 0, none⟩ = some (.string cs[j].e.q) ∧ w'.cell? ⟨wr.heap.size, 1, none⟩ = some (.int .u64 cs[j].e.id) ∧ w'.cell? ⟨wr.heap.size, 11, none⟩ = some (.string cs[j].e.body) from fun w' hb' => by
    obtain ⟨⟨t0, t1, t2, t3, t4, t5⟩, t6, t7, t8, t9, t10, t11⟩ := (HX6.out.kept hb' (Nat.le_refl _)).cells
    exact ⟨t0, t1, t11⟩)
   go_upto_region 20 with fail
   have hy0 := below_drew1 (Below.refl w6.heap.size w6)
   refine wp_region_held_drew (S := fun w' => w'.cell? ⟨wr.heap.size, 0, none⟩ = some (.string cs[j].e.q) ∧ w'.cell? ⟨wr.heap.size, 1, none⟩ = some (.int .u64 cs[j].e.id) ∧ w'.cell? ⟨wr.heap.size, 11, none⟩ = some (.string cs[j].e.body)) (by kernel_rfl) (HKEEP.out _ hy0) (fun hHeld => ?_)
   refine wpAnyH_take (i := 0) (oi := { dst := some 84, op := Op.move (Operand.tmp 9), type := 9, pos := "ref.go:113", after := #[], guard := none }) (v := ?_) rfl (by kernel_rfl) (by kernel_rfl) (by kernel_rfl) (fun _ _ _ h => h) (Or.inl ⟨by rfl, ?_⟩) (by assumption) ?_
   rotate_left
   ·intro w9 hSw
    obtain ⟨g0, g1, g11⟩ := hSw
    go_simp
    try with_reducible rfl
   try simp only [Act.put, List.setIfInBounds_toArray, List.set_cons_zero, List.set_cons_succ]
   refine wpAnyH_take (i := 1) (oi := { dst := some 85, op := Op.fieldAddr 67 (Operand.tmp 13) 0, type := 0, pos := "ref.go:113", after := #[], guard := none }) (v := ?_) rfl (by kernel_rfl) (by kernel_rfl) (by kernel_rfl) (fun _ _ _ h => h) (Or.inl ⟨by rfl, ?_⟩) (by assumption) ?_
   rotate_left
   ·intro w9 hSw
    obtain ⟨g0, g1, g11⟩ := hSw
    go_simp
    try with_reducible rfl
   try simp only [Act.put, List.setIfInBounds_toArray, List.set_cons_zero, List.set_cons_succ]
   refine wpAnyH_take (i := 2) (oi := { dst := some 86, op := Op.load 9 (Operand.tmp 85), type := 9, pos := "ref.go:113", after := #[{ on := 1, ground := Ground.data }], guard := none }) (v := ?_) rfl (by kernel_rfl) (by kernel_rfl) (by kernel_rfl) (fun _ _ _ h => h) (Or.inl ⟨by rfl, ?_⟩) (by assumption) ?_
   rotate_left
   ·intro w9 hSw
    obtain ⟨g0, g1, g11⟩ := hSw
    go_simp
    try with_reducible rfl
   try simp only [Act.put, List.setIfInBounds_toArray, List.set_cons_zero, List.set_cons_succ]
   refine wpAnyH_take (i := 5) (oi := { dst := some 89, op := Op.fieldAddr 67 (Operand.tmp 13) 1, type := 0, pos := "ref.go:113", after := #[], guard := none }) (v := ?_) rfl (by kernel_rfl) (by kernel_rfl) (by kernel_rfl) (fun _ _ _ h => h) (Or.inl ⟨by rfl, ?_⟩) (by assumption) ?_
   rotate_left
   ·intro w9 hSw
    obtain ⟨g0, g1, g11⟩ := hSw
    go_simp
    try with_reducible rfl
   try simp only [Act.put, List.setIfInBounds_toArray, List.set_cons_zero, List.set_cons_succ]
   refine wpAnyH_take (i := 6) (oi := { dst := some 90, op := Op.load 22 (Operand.tmp 89), type := 22, pos := "ref.go:113", after := #[{ on := 5, ground := Ground.data }], guard := none }) (v := ?_) rfl (by kernel_rfl) (by kernel_rfl) (by kernel_rfl) (fun _ _ _ h => h) (Or.inl ⟨by rfl, ?_⟩) (by assumption) ?_
   rotate_left
   ·intro w9 hSw
    obtain ⟨g0, g1, g11⟩ := hSw
    go_simp
    try with_reducible rfl
   try simp only [Act.put, List.setIfInBounds_toArray, List.set_cons_zero, List.set_cons_succ]
   refine wpAnyH_take (i := 9) (oi := { dst := some 93, op := Op.move (Operand.tmp 14), type := 9, pos := "ref.go:113", after := #[], guard := none }) (v := ?_) rfl (by kernel_rfl) (by kernel_rfl) (by kernel_rfl) (fun _ _ _ h => h) (Or.inl ⟨by rfl, ?_⟩) (by assumption) ?_
   rotate_left
   ·intro w9 hSw
    obtain ⟨g0, g1, g11⟩ := hSw
    go_simp
    try with_reducible rfl
   try simp only [Act.put, List.setIfInBounds_toArray, List.set_cons_zero, List.set_cons_succ]
   refine wpAnyH_take (i := 10) (oi := { dst := some 94, op := Op.call { callee := Callee.builtin Builtin.len, args := #[Operand.tmp 93], argTypes := #[9] }, type := 3, pos := "ref.go:113", after := #[{ on := 9, ground := Ground.data }], guard := none }) (v := ?_) rfl (by kernel_rfl) (by kernel_rfl) (by kernel_rfl) (fun _ _ _ h => h) (Or.inl ⟨by rfl, ?_⟩) (by assumption) ?_
   rotate_left
   ·intro w9 hSw
    obtain ⟨g0, g1, g11⟩ := hSw
    go_simp
    try with_reducible rfl
   try simp only [Act.put, List.setIfInBounds_toArray, List.set_cons_zero, List.set_cons_succ]
   refine wpAnyH_take (i := 11) (oi := { dst := some 95, op := Op.convert 3 22 (Operand.tmp 94), type := 22, pos := "ref.go:113", after := #[{ on := 10, ground := Ground.data }], guard := none }) (v := ?_) rfl (by kernel_rfl) (by kernel_rfl) (by kernel_rfl) (fun _ _ _ h => h) (Or.inl ⟨by rfl, ?_⟩) (by assumption) ?_
   rotate_left
   ·intro w9 hSw
    obtain ⟨g0, g1, g11⟩ := hSw
    go_simp
    try with_reducible rfl
   try simp only [Act.put, List.setIfInBounds_toArray, List.set_cons_zero, List.set_cons_succ]
   refine wpAnyH_take (i := 14) (oi := { dst := some 98, op := Op.move (Operand.tmp 14), type := 9, pos := "ref.go:113", after := #[], guard := none }) (v := ?_) rfl (by kernel_rfl) (by kernel_rfl) (by kernel_rfl) (fun _ _ _ h => h) (Or.inl ⟨by rfl, ?_⟩) (by assumption) ?_
   rotate_left
   ·intro w9 hSw
    obtain ⟨g0, g1, g11⟩ := hSw
    go_simp
    try with_reducible rfl
   try simp only [Act.put, List.setIfInBounds_toArray, List.set_cons_zero, List.set_cons_succ]
   refine wpAnyH_take (i := 16) (oi := { dst := some 100, op := Op.fieldAddr 67 (Operand.tmp 13) 3, type := 0, pos := "ref.go:113", after := #[], guard := none }) (v := ?_) rfl (by kernel_rfl) (by kernel_rfl) (by kernel_rfl) (fun _ _ _ h => h) (Or.inl ⟨by rfl, ?_⟩) (by assumption) ?_
   rotate_left
   ·intro w9 hSw
    obtain ⟨g0, g1, g11⟩ := hSw
    go_simp
    try with_reducible rfl
   try simp only [Act.put, List.setIfInBounds_toArray, List.set_cons_zero, List.set_cons_succ]
   refine wpAnyH_take (i := 17) (oi := { dst := some 101, op := Op.load 9 (Operand.tmp 100), type := 9, pos := "ref.go:113", after := #[{ on := 16, ground := Ground.data }], guard := none }) (v := ?_) rfl (by kernel_rfl) (by kernel_rfl) (by kernel_rfl) (fun _ _ _ h => h) (Or.inl ⟨by rfl, ?_⟩) (by assumption) ?_
   rotate_left
   ·intro w9 hSw
    obtain ⟨g0, g1, g11⟩ := hSw
    go_simp
    try with_reducible rfl
   try simp only [Act.put, List.setIfInBounds_toArray, List.set_cons_zero, List.set_cons_succ]
   refine wpAnyH_take (i := 18) (oi := { dst := some 102, op := Op.call { callee := Callee.builtin Builtin.len, args := #[Operand.tmp 101], argTypes := #[9] }, type := 3, pos := "ref.go:113", after := #[{ on := 17, ground := Ground.data }], guard := none }) (v := ?_) rfl (by kernel_rfl) (by kernel_rfl) (by kernel_rfl) (fun _ _ _ h => h) (Or.inl ⟨by rfl, ?_⟩) (by assumption) ?_
   rotate_left
   ·intro w9 hSw
    obtain ⟨g0, g1, g11⟩ := hSw
    go_simp
    try with_reducible rfl
   try simp only [Act.put, List.setIfInBounds_toArray, List.set_cons_zero, List.set_cons_succ]
   refine wpAnyH_take (i := 19) (oi := { dst := some 103, op := Op.convert 3 22 (Operand.tmp 102), type := 22, pos := "ref.go:113", after := #[{ on := 18, ground := Ground.data }], guard := none }) (v := ?_) rfl (by kernel_rfl) (by kernel_rfl) (by kernel_rfl) (fun _ _ _ h => h) (Or.inl ⟨by rfl, ?_⟩) (by assumption) ?_
   rotate_left
   ·intro w9 hSw
    obtain ⟨g0, g1, g11⟩ := hSw
    go_simp
    try with_reducible rfl
   try simp only [Act.put, List.setIfInBounds_toArray, List.set_cons_zero, List.set_cons_succ]
   refine wpAnyH_take (i := 22) (oi := { dst := some 106, op := Op.fieldAddr 67 (Operand.tmp 13) 3, type := 0, pos := "ref.go:113", after := #[], guard := none }) (v := ?_) rfl (by kernel_rfl) (by kernel_rfl) (by kernel_rfl) (fun _ _ _ h => h) (Or.inl ⟨by rfl, ?_⟩) (by assumption) ?_
   rotate_left
   ·intro w9 hSw
    obtain ⟨g0, g1, g11⟩ := hSw
    go_simp
    try with_reducible rfl
   try simp only [Act.put, List.setIfInBounds_toArray, List.set_cons_zero, List.set_cons_succ]
   refine wpAnyH_take (i := 23) (oi := { dst := some 107, op := Op.load 9 (Operand.tmp 106), type := 9, pos := "ref.go:113", after := #[{ on := 22, ground := Ground.data }], guard := none }) (v := ?_) rfl (by kernel_rfl) (by kernel_rfl) (by kernel_rfl) (fun _ _ _ h => h) (Or.inl ⟨by rfl, ?_⟩) (by assumption) ?_
   rotate_left
   ·intro w9 hSw
    obtain ⟨g0, g1, g11⟩ := hSw
    go_simp
    try with_reducible rfl
   try simp only [Act.put, List.setIfInBounds_toArray, List.set_cons_zero, List.set_cons_succ]
   refine wpAnyH_ready (rs := [3]) (by kernel_rfl) (by simp) ?_
   refine AllReadyH.cons (o := { dst := some 87, op := Op.call { callee := Callee.value (Operand.func 25), args := #[Operand.tmp 86], argTypes := #[9] }, type := 9, pos := "ref.go:113", after := #[{ on := 2, ground := Ground.data }], guard := none }) rfl (fun K hK => ?_) AllReadyH.nil
   go_simp
   refine (HT1.out _).mono ?_
   rintro e y1 ⟨rfl, hx1⟩
   have hy1 := hy0.trans (hx1.mono hy0.size)
   have hS1 := HKEEP.out _ hy1
   refine hK.out _ _ hS1 (fun _ => ?_)
   clear hK K
   try simp only [Act.put, List.setIfInBounds_toArray, List.set_cons_zero, List.set_cons_succ]
   refine wpAnyH_take (i := 4) (oi := { dst := some 88, op := Op.binOp BinOp.add 9 (Operand.tmp 84) (Operand.tmp 87) 9, type := 9, pos := "ref.go:113", after := #[{ on := 0, ground := Ground.data }, { on := 3, ground := Ground.data }], guard := none }) (v := ?_) rfl (by kernel_rfl) (by kernel_rfl) (by kernel_rfl) (fun _ _ _ h => h) (Or.inl ⟨by rfl, ?_⟩) (by assumption) ?_
   rotate_left
   ·intro w9 hSw
    obtain ⟨g0, g1, g11⟩ := hSw
    go_simp
    try with_reducible rfl
   try simp only [Act.put, List.setIfInBounds_toArray, List.set_cons_zero, List.set_cons_succ]
   refine wpAnyH_ready (rs := [7]) (by kernel_rfl) (by simp) ?_
   refine AllReadyH.cons (o := { dst := some 91, op := Op.call { callee := Callee.value (Operand.func 24), args := #[Operand.tmp 90, Operand.const (Value.int IntKind.i64 8)], argTypes := #[22, 3] }, type := 9, pos := "ref.go:113", after := #[{ on := 6, ground := Ground.data }, { on := 3, ground := Ground.chain }], guard := none }) rfl (fun K hK => ?_) AllReadyH.nil
   go_simp
   refine (HT2.out _).mono ?_
   rintro e y2 ⟨rfl, hx2⟩
   have hy2 := hy1.trans (hx2.mono hy1.size)
   have hS2 := HKEEP.out _ hy2
   refine hK.out _ _ hS2 (fun _ => ?_)
   clear hK K
   try simp only [Act.put, List.setIfInBounds_toArray, List.set_cons_zero, List.set_cons_succ]
   refine wpAnyH_take (i := 8) (oi := { dst := some 92, op := Op.binOp BinOp.add 9 (Operand.tmp 88) (Operand.tmp 91) 9, type := 9, pos := "ref.go:113", after := #[{ on := 4, ground := Ground.data }, { on := 7, ground := Ground.data }], guard := none }) (v := ?_) rfl (by kernel_rfl) (by kernel_rfl) (by kernel_rfl) (fun _ _ _ h => h) (Or.inl ⟨by rfl, ?_⟩) (by assumption) ?_
   rotate_left
   ·intro w9 hSw
    obtain ⟨g0, g1, g11⟩ := hSw
    go_simp
    try with_reducible rfl
   try simp only [Act.put, List.setIfInBounds_toArray, List.set_cons_zero, List.set_cons_succ]
   refine wpAnyH_ready (rs := [12]) (by kernel_rfl) (by simp) ?_
   refine AllReadyH.cons (o := { dst := some 96, op := Op.call { callee := Callee.value (Operand.func 24), args := #[Operand.tmp 95, Operand.const (Value.int IntKind.i64 4)], argTypes := #[22, 3] }, type := 9, pos := "ref.go:113", after := #[{ on := 11, ground := Ground.data }, { on := 7, ground := Ground.chain }], guard := none }) rfl (fun K hK => ?_) AllReadyH.nil
   go_simp
   refine (HT3.out _).mono ?_
   rintro e y3 ⟨rfl, hx3⟩
   have hy3 := hy2.trans (hx3.mono hy2.size)
   have hS3 := HKEEP.out _ hy3
   refine hK.out _ _ hS3 (fun _ => ?_)
   clear hK K
   try simp only [Act.put, List.setIfInBounds_toArray, List.set_cons_zero, List.set_cons_succ]
   refine wpAnyH_take (i := 13) (oi := { dst := some 97, op := Op.binOp BinOp.add 9 (Operand.tmp 92) (Operand.tmp 96) 9, type := 9, pos := "ref.go:113", after := #[{ on := 8, ground := Ground.data }, { on := 12, ground := Ground.data }], guard := none }) (v := ?_) rfl (by kernel_rfl) (by kernel_rfl) (by kernel_rfl) (fun _ _ _ h => h) (Or.inl ⟨by rfl, ?_⟩) (by assumption) ?_
   rotate_left
   ·intro w9 hSw
    obtain ⟨g0, g1, g11⟩ := hSw
    go_simp
    try with_reducible rfl
   try simp only [Act.put, List.setIfInBounds_toArray, List.set_cons_zero, List.set_cons_succ]
   refine wpAnyH_take (i := 15) (oi := { dst := some 99, op := Op.binOp BinOp.add 9 (Operand.tmp 97) (Operand.tmp 98) 9, type := 9, pos := "ref.go:113", after := #[{ on := 13, ground := Ground.data }, { on := 14, ground := Ground.data }], guard := none }) (v := ?_) rfl (by kernel_rfl) (by kernel_rfl) (by kernel_rfl) (fun _ _ _ h => h) (Or.inl ⟨by rfl, ?_⟩) (by assumption) ?_
   rotate_left
   ·intro w9 hSw
    obtain ⟨g0, g1, g11⟩ := hSw
    go_simp
    try with_reducible rfl
   try simp only [Act.put, List.setIfInBounds_toArray, List.set_cons_zero, List.set_cons_succ]
   refine wpAnyH_ready (rs := [20]) (by kernel_rfl) (by simp) ?_
   refine AllReadyH.cons (o := { dst := some 104, op := Op.call { callee := Callee.value (Operand.func 24), args := #[Operand.tmp 103, Operand.const (Value.int IntKind.i64 2)], argTypes := #[22, 3] }, type := 9, pos := "ref.go:113", after := #[{ on := 19, ground := Ground.data }, { on := 12, ground := Ground.chain }], guard := none }) rfl (fun K hK => ?_) AllReadyH.nil
   go_simp
   refine (HT4.out _).mono ?_
   rintro e y4 ⟨rfl, hx4⟩
   have hy4 := hy3.trans (hx4.mono hy3.size)
   have hS4 := HKEEP.out _ hy4
   refine hK.out _ _ hS4 (fun _ => ?_)
   clear hK K
   try simp only [Act.put, List.setIfInBounds_toArray, List.set_cons_zero, List.set_cons_succ]
   refine wpAnyH_take (i := 21) (oi := { dst := some 105, op := Op.binOp BinOp.add 9 (Operand.tmp 99) (Operand.tmp 104) 9, type := 9, pos := "ref.go:113", after := #[{ on := 15, ground := Ground.data }, { on := 20, ground := Ground.data }], guard := none }) (v := ?_) rfl (by kernel_rfl) (by kernel_rfl) (by kernel_rfl) (fun _ _ _ h => h) (Or.inl ⟨by rfl, ?_⟩) (by assumption) ?_
   rotate_left
   ·intro w9 hSw
    obtain ⟨g0, g1, g11⟩ := hSw
    go_simp
    try with_reducible rfl
   try simp only [Act.put, List.setIfInBounds_toArray, List.set_cons_zero, List.set_cons_succ]
   refine wpAnyH_take (i := 24) (oi := { dst := some 108, op := Op.binOp BinOp.add 9 (Operand.tmp 105) (Operand.tmp 107) 9, type := 9, pos := "ref.go:113", after := #[{ on := 21, ground := Ground.data }, { on := 23, ground := Ground.data }], guard := none }) (v := ?_) rfl (by kernel_rfl) (by kernel_rfl) (by kernel_rfl) (fun _ _ _ h => h) (Or.inl ⟨by rfl, ?_⟩) (by assumption) ?_
   rotate_left
   ·intro w9 hSw
    obtain ⟨g0, g1, g11⟩ := hSw
    go_simp
    try with_reducible rfl
   try simp only [Act.put, List.setIfInBounds_toArray, List.set_cons_zero, List.set_cons_succ]
   refine wpAnyH_take (i := 25) (oi := { dst := some 9, op := Op.assign (Operand.tmp 108), type := 9, pos := "ref.go:113", after := #[{ on := 24, ground := Ground.data }, { on := 20, ground := Ground.chain }, { on := 0, ground := Ground.phase }, { on := 1, ground := Ground.phase }, { on := 2, ground := Ground.phase }, { on := 3, ground := Ground.phase }, { on := 4, ground := Ground.phase }, { on := 5, ground := Ground.phase }, { on := 6, ground := Ground.phase }, { on := 7, ground := Ground.phase }, { on := 8, ground := Ground.phase }, { on := 9, ground := Ground.phase }, { on := 10, ground := Ground.phase }, { on := 11, ground := Ground.phase }, { on := 12, ground := Ground.phase }, { on := 13, ground := Ground.phase }, { on := 14, ground := Ground.phase }, { on := 15, ground := Ground.phase }, { on := 16, ground := Ground.phase }, { on := 17, ground := Ground.phase }, { on := 18, ground := Ground.phase }, { on := 19, ground := Ground.phase }, { on := 20, ground := Ground.phase }, { on := 21, ground := Ground.phase }, { on := 22, ground := Ground.phase }, { on := 23, ground := Ground.phase }, { on := 24, ground := Ground.phase }], guard := none }) (v := ?_) rfl (by kernel_rfl) (by kernel_rfl) (by kernel_rfl) (fun _ _ _ h => h) (Or.inl ⟨by rfl, ?_⟩) (by assumption) ?_
   rotate_left
   ·intro w9 hSw
    obtain ⟨g0, g1, g11⟩ := hSw
    go_simp
    try with_reducible rfl
   try simp only [Act.put, List.setIfInBounds_toArray, List.set_cons_zero, List.set_cons_succ]
   refine wpAnyH_done (by kernel_rfl) ?_ _
   go_wp2_with fail
   go_roundw
   case rel => exact ⟨j + 1, _, by omega, rfl, by go_num, by first | exact HNEXT.out | (rw [← HNEXT.out]; simp only [ByteArray.append_assoc]), HB7.out.trans (hy4.mono HB7.out.size)⟩
   case measure => simp [intOf]; omega
  ·have b1 : ¬ (j : Int) < (cs.length : Int) := by omega
   have HS := Lib.hid (show S = str8 (H ++ rowB putB (esOf cs)) by
    rw [hS, List.take_of_length_le (by rw [esOf_len]; omega)]
    unfold rowB
    rw [esOf_len])
   have hz : ¬ 9223372036854775807 < S.size + (str8 (be 1 rs.length)).size := by rw [str8_size, be_length]; omega
   have HSL := Lib.hid hSl
   clear hS hSl
   go_wp2_with fail
   refine (HNT.out _).mono ?_
   rintro e w7 ⟨rfl, hb7⟩
   have hbr7 := hbr.trans (hb7.mono hbr.size)
   clear e6 e7
   go_wp2_with fail
   clear hz
   go_loopw [9, 16] (fun sv iv wr2 => ∃ (j : Nat) (S2 : ByteArray), j ≤ rs.length ∧ sv = .string S2 ∧ iv = .int .i64 j ∧ S2 = str8 (H ++ (rowB putB (esOf cs) ++ (be 1 rs.length ++ (rs.take j).flatMap refB))) ∧ Below W1.heap.size W1 wr2) (fun _ i _ => rs.length - (intOf i).toNat)
   case atStart => exact ⟨0, _, by omega, rfl, rfl, by rw [HS.out, str8_app9, List.take_zero, List.flatMap_nil, List.append_nil, List.append_assoc], hbr7⟩
   case round =>
    rename World => wr2
    clear hbr7
    have hlr := HLM.out.2
    obtain ⟨j, S2, hj, rfl, rfl, hS2, hbr2⟩ := hrel
    have hwr2 := HB.out.trans (hbr2.mono HB.out.size)
    obtain ⟨⟨e0, e1, e2⟩, ⟨e3, e4, e5⟩, e6, e7⟩ := (HX.out.kept hbr2 (Nat.le_refl _)).cells
    simp only [] at e7
    clear e0 e1 e2 e3 e4 e5 e6 b1 hj hbr hwr
    by_cases hlt : j < rs.length
    ·have b1 : (j : Int) < (rs.length : Int) := by omega
     have hj0 : (0 : Int) ≤ (j : Int) := by omega
     have hSl : S2.size ≤ 1400000 := by
      have h0 : S.size = (H ++ rowB putB (esOf cs)).length := by rw [HS.out, str8_size]
      have h4 := HSL.out
      rw [hS2, str8_size]
      have h1 := flat_le refB 49 (rs.take j) (fun r hr => by
       obtain ⟨i, hi, rfl⟩ := List.getElem_of_mem (List.mem_of_mem_take hr)
       exact refB_le (HMR.out i hi))
      have h2 : (rs.take j).length ≤ 100 := by rw [List.length_take]; have := HL12.out; omega
      have h3 : (rs.take j).length * 49 ≤ 100 * 49 := Nat.mul_le_mul_right _ h2
      simp only [List.length_append, be_length] at h0 ⊢
      omega
     obtain ⟨d, o, hA, hd, t0, t1⟩ := HRA.out _ hwr2 j hlt
     subst hA
     have hmr := HMR.out j hlt
     have hq : qnOK rs[j].q = true := by unfold refMay at hmr; rw [Bool.and_eq_true] at hmr; exact hmr.1
     have hT1c := HQT.out rs[j].q hq
     have hT2c := HD8.out rs[j].id (HEACR.out j hlt).2
     obtain ⟨T1, hT1⟩ : ∃ T1, T1 = str8 (be 1 rs[j].q.size ++ sb rs[j].q) := ⟨_, rfl⟩
     obtain ⟨T2, hT2⟩ : ∃ T2, T2 = str8 (be 8 rs[j].id) := ⟨_, rfl⟩
     rw [← hT1] at hT1c
     rw [← hT2] at hT2c
     have s1 : T1.size ≤ 41 := by rw [hT1, str8_size, List.length_append, be_length, sb_length]; have := (qn_size hq).2; omega
     have s2 : T2.size = 8 := by rw [hT2, str8_size, be_length]
     have HNEXT := Lib.hid (show S2 ++ T1 ++ T2 = str8 (H ++ (rowB putB (esOf cs) ++ (be 1 rs.length ++ (rs.take (j + 1)).flatMap refB))) by
      rw [flat_snoc refB rs j hlt, hS2, hT1, hT2]
      simp only [str8_app9]
      have er : refB rs[j] = be 1 rs[j].q.size ++ sb rs[j].q ++ be 8 rs[j].id := rfl
      rw [er]
      simp only [List.append_assoc])
     have z1 : ¬ 9223372036854775807 < S2.size + T1.size := by omega
     have z2 : ¬ 9223372036854775807 < S2.size + T1.size + T2.size := by omega
     have HT1 := Lib.hid hT1c
     have HT2 := Lib.hid hT2c
     have HKEEP := Lib.hid (show ∀ w', Below wr2.heap.size wr2 w' → w'.cell? ⟨w.heap.size, 7, none⟩ = some (.slice (some ⟨d, o, none⟩) rs.length c2) ∧ w'.cell? ⟨d, o + j * 2, none⟩ = some (.string rs[j].q) ∧ w'.cell? ⟨d, o + j * 2 + 1, none⟩ = some (.int .u64 rs[j].id) from fun w' hb' => by
      obtain ⟨_, _, e, _, g0, g1⟩ := HRA.out w' (hwr2.trans (hb'.mono hwr2.size)) j hlt
      cases e
      obtain ⟨⟨f0, f1, f2⟩, ⟨f3, f4, f5⟩, f6, f7⟩ := (HX.out.kept (hbr2.trans (hb'.mono hbr2.size)) (Nat.le_refl _)).cells
      exact ⟨f7, g0, g1⟩)
     have HBR2 := Lib.hid hbr2
     clear hT1c hT2c hT1 hT2 hS2 hSl hmr hq s1 s2 hd hbr2 hwr2 t0 t1
     go_upto_region 25 with fail
     clear e7
     have hy0 := below_drew1 (Below.refl wr2.heap.size wr2)
     refine wp_region_held_drew (S := fun w' => w'.cell? ⟨w.heap.size, 7, none⟩ = some (.slice (some ⟨d, o, none⟩) rs.length c2) ∧ w'.cell? ⟨d, o + j * 2, none⟩ = some (.string rs[j].q) ∧ w'.cell? ⟨d, o + j * 2 + 1, none⟩ = some (.int .u64 rs[j].id)) (by kernel_rfl) (HKEEP.out _ hy0) (fun hHeld => ?_)
     refine wpAnyH_take (i := 0) (oi := { dst := some 123, op := Op.move (Operand.tmp 9), type := 9, pos := "ref.go:117", after := #[], guard := none }) (v := ?_) rfl (by kernel_rfl) (by kernel_rfl) (by kernel_rfl) (fun _ _ _ h => h) (Or.inl ⟨by rfl, ?_⟩) (by assumption) ?_
     rotate_left
     ·intro w9 hSw
      obtain ⟨f7, g0, g1⟩ := hSw
      go_simp
      try with_reducible rfl
     try simp only [Act.put, List.setIfInBounds_toArray, List.set_cons_zero, List.set_cons_succ]
     refine wpAnyH_take (i := 1) (oi := { dst := some 124, op := Op.fieldAddr 29 (Operand.tmp 1) 5, type := 0, pos := "ref.go:117", after := #[], guard := none }) (v := ?_) rfl (by kernel_rfl) (by kernel_rfl) (by kernel_rfl) (fun _ _ _ h => h) (Or.inl ⟨by rfl, ?_⟩) (by assumption) ?_
     rotate_left
     ·intro w9 hSw
      obtain ⟨f7, g0, g1⟩ := hSw
      go_simp
      try with_reducible rfl
     try simp only [Act.put, List.setIfInBounds_toArray, List.set_cons_zero, List.set_cons_succ]
     refine wpAnyH_take (i := 2) (oi := { dst := some 125, op := Op.load 27 (Operand.tmp 124), type := 27, pos := "ref.go:117", after := #[{ on := 1, ground := Ground.data }], guard := none }) (v := ?_) rfl (by kernel_rfl) (by kernel_rfl) (by kernel_rfl) (fun _ _ _ h => h) (Or.inl ⟨by rfl, ?_⟩) (by assumption) ?_
     rotate_left
     ·intro w9 hSw
      obtain ⟨f7, g0, g1⟩ := hSw
      go_simp
      try with_reducible rfl
     try simp only [Act.put, List.setIfInBounds_toArray, List.set_cons_zero, List.set_cons_succ]
     refine wpAnyH_take (i := 3) (oi := { dst := some 126, op := Op.move (Operand.tmp 16), type := 3, pos := "ref.go:117", after := #[], guard := none }) (v := ?_) rfl (by kernel_rfl) (by kernel_rfl) (by kernel_rfl) (fun _ _ _ h => h) (Or.inl ⟨by rfl, ?_⟩) (by assumption) ?_
     rotate_left
     ·intro w9 hSw
      obtain ⟨f7, g0, g1⟩ := hSw
      go_simp
      try with_reducible rfl
     try simp only [Act.put, List.setIfInBounds_toArray, List.set_cons_zero, List.set_cons_succ]
     refine wpAnyH_take (i := 4) (oi := { dst := some 127, op := Op.indexAddr 27 (Operand.tmp 125) (Operand.tmp 126), type := 0, pos := "ref.go:117", after := #[{ on := 2, ground := Ground.data }, { on := 3, ground := Ground.data }], guard := none }) (v := ?_) rfl (by kernel_rfl) (by kernel_rfl) (by kernel_rfl) (fun _ _ _ h => h) (Or.inl ⟨by rfl, ?_⟩) (by assumption) ?_
     rotate_left
     ·intro w9 hSw
      obtain ⟨f7, g0, g1⟩ := hSw
      go_simp
      try with_reducible rfl
     try simp only [Act.put, List.setIfInBounds_toArray, List.set_cons_zero, List.set_cons_succ]
     refine wpAnyH_take (i := 5) (oi := { dst := some 128, op := Op.fieldAddr 48 (Operand.tmp 127) 0, type := 0, pos := "ref.go:117", after := #[{ on := 4, ground := Ground.data }], guard := none }) (v := ?_) rfl (by kernel_rfl) (by kernel_rfl) (by kernel_rfl) (fun _ _ _ h => h) (Or.inl ⟨by rfl, ?_⟩) (by assumption) ?_
     rotate_left
     ·intro w9 hSw
      obtain ⟨f7, g0, g1⟩ := hSw
      go_simp
      try with_reducible rfl
     try simp only [Act.put, List.setIfInBounds_toArray, List.set_cons_zero, List.set_cons_succ]
     refine wpAnyH_take (i := 6) (oi := { dst := some 129, op := Op.load 9 (Operand.tmp 128), type := 9, pos := "ref.go:117", after := #[{ on := 5, ground := Ground.data }], guard := none }) (v := ?_) rfl (by kernel_rfl) (by kernel_rfl) (by kernel_rfl) (fun _ _ _ h => h) (Or.inl ⟨by rfl, ?_⟩) (by assumption) ?_
     rotate_left
     ·intro w9 hSw
      obtain ⟨f7, g0, g1⟩ := hSw
      go_simp
      try with_reducible rfl
     try simp only [Act.put, List.setIfInBounds_toArray, List.set_cons_zero, List.set_cons_succ]
     refine wpAnyH_take (i := 9) (oi := { dst := some 132, op := Op.fieldAddr 29 (Operand.tmp 1) 5, type := 0, pos := "ref.go:117", after := #[], guard := none }) (v := ?_) rfl (by kernel_rfl) (by kernel_rfl) (by kernel_rfl) (fun _ _ _ h => h) (Or.inl ⟨by rfl, ?_⟩) (by assumption) ?_
     rotate_left
     ·intro w9 hSw
      obtain ⟨f7, g0, g1⟩ := hSw
      go_simp
      try with_reducible rfl
     try simp only [Act.put, List.setIfInBounds_toArray, List.set_cons_zero, List.set_cons_succ]
     refine wpAnyH_take (i := 10) (oi := { dst := some 133, op := Op.load 27 (Operand.tmp 132), type := 27, pos := "ref.go:117", after := #[{ on := 9, ground := Ground.data }], guard := none }) (v := ?_) rfl (by kernel_rfl) (by kernel_rfl) (by kernel_rfl) (fun _ _ _ h => h) (Or.inl ⟨by rfl, ?_⟩) (by assumption) ?_
     rotate_left
     ·intro w9 hSw
      obtain ⟨f7, g0, g1⟩ := hSw
      go_simp
      try with_reducible rfl
     try simp only [Act.put, List.setIfInBounds_toArray, List.set_cons_zero, List.set_cons_succ]
     refine wpAnyH_take (i := 11) (oi := { dst := some 134, op := Op.move (Operand.tmp 16), type := 3, pos := "ref.go:117", after := #[], guard := none }) (v := ?_) rfl (by kernel_rfl) (by kernel_rfl) (by kernel_rfl) (fun _ _ _ h => h) (Or.inl ⟨by rfl, ?_⟩) (by assumption) ?_
     rotate_left
     ·intro w9 hSw
      obtain ⟨f7, g0, g1⟩ := hSw
      go_simp
      try with_reducible rfl
     try simp only [Act.put, List.setIfInBounds_toArray, List.set_cons_zero, List.set_cons_succ]
     refine wpAnyH_take (i := 12) (oi := { dst := some 135, op := Op.indexAddr 27 (Operand.tmp 133) (Operand.tmp 134), type := 0, pos := "ref.go:117", after := #[{ on := 10, ground := Ground.data }, { on := 11, ground := Ground.data }], guard := none }) (v := ?_) rfl (by kernel_rfl) (by kernel_rfl) (by kernel_rfl) (fun _ _ _ h => h) (Or.inl ⟨by rfl, ?_⟩) (by assumption) ?_
     rotate_left
     ·intro w9 hSw
      obtain ⟨f7, g0, g1⟩ := hSw
      go_simp
      try with_reducible rfl
     try simp only [Act.put, List.setIfInBounds_toArray, List.set_cons_zero, List.set_cons_succ]
     refine wpAnyH_take (i := 13) (oi := { dst := some 136, op := Op.fieldAddr 48 (Operand.tmp 135) 1, type := 0, pos := "ref.go:117", after := #[{ on := 12, ground := Ground.data }], guard := none }) (v := ?_) rfl (by kernel_rfl) (by kernel_rfl) (by kernel_rfl) (fun _ _ _ h => h) (Or.inl ⟨by rfl, ?_⟩) (by assumption) ?_
     rotate_left
     ·intro w9 hSw
      obtain ⟨f7, g0, g1⟩ := hSw
      go_simp
      try with_reducible rfl
     try simp only [Act.put, List.setIfInBounds_toArray, List.set_cons_zero, List.set_cons_succ]
     refine wpAnyH_take (i := 14) (oi := { dst := some 137, op := Op.load 22 (Operand.tmp 136), type := 22, pos := "ref.go:117", after := #[{ on := 13, ground := Ground.data }], guard := none }) (v := ?_) rfl (by kernel_rfl) (by kernel_rfl) (by kernel_rfl) (fun _ _ _ h => h) (Or.inl ⟨by rfl, ?_⟩) (by assumption) ?_
     rotate_left
     ·intro w9 hSw
      obtain ⟨f7, g0, g1⟩ := hSw
      go_simp
      try with_reducible rfl
     try simp only [Act.put, List.setIfInBounds_toArray, List.set_cons_zero, List.set_cons_succ]
     refine wpAnyH_ready (rs := [7]) (by kernel_rfl) (by simp) ?_
     refine AllReadyH.cons (o := { dst := some 130, op := Op.call { callee := Callee.value (Operand.func 25), args := #[Operand.tmp 129], argTypes := #[9] }, type := 9, pos := "ref.go:117", after := #[{ on := 6, ground := Ground.data }], guard := none }) rfl (fun K hK => ?_) AllReadyH.nil
     go_simp
     refine (HT1.out _).mono ?_
     rintro e y1 ⟨rfl, hx1⟩
     have hy1 := hy0.trans (hx1.mono hy0.size)
     have hS1 := HKEEP.out _ hy1
     refine hK.out _ _ hS1 (fun _ => ?_)
     clear hK K
     try simp only [Act.put, List.setIfInBounds_toArray, List.set_cons_zero, List.set_cons_succ]
     refine wpAnyH_take (i := 8) (oi := { dst := some 131, op := Op.binOp BinOp.add 9 (Operand.tmp 123) (Operand.tmp 130) 9, type := 9, pos := "ref.go:117", after := #[{ on := 0, ground := Ground.data }, { on := 7, ground := Ground.data }], guard := none }) (v := ?_) rfl (by kernel_rfl) (by kernel_rfl) (by kernel_rfl) (fun _ _ _ h => h) (Or.inl ⟨by rfl, ?_⟩) (by assumption) ?_
     rotate_left
     ·intro w9 hSw
      obtain ⟨f7, g0, g1⟩ := hSw
      go_simp
      try with_reducible rfl
     try simp only [Act.put, List.setIfInBounds_toArray, List.set_cons_zero, List.set_cons_succ]
     refine wpAnyH_ready (rs := [15]) (by kernel_rfl) (by simp) ?_
     refine AllReadyH.cons (o := { dst := some 138, op := Op.call { callee := Callee.value (Operand.func 24), args := #[Operand.tmp 137, Operand.const (Value.int IntKind.i64 8)], argTypes := #[22, 3] }, type := 9, pos := "ref.go:117", after := #[{ on := 14, ground := Ground.data }, { on := 7, ground := Ground.chain }], guard := none }) rfl (fun K hK => ?_) AllReadyH.nil
     go_simp
     refine (HT2.out _).mono ?_
     rintro e y2 ⟨rfl, hx2⟩
     have hy2 := hy1.trans (hx2.mono hy1.size)
     have hS2 := HKEEP.out _ hy2
     refine hK.out _ _ hS2 (fun _ => ?_)
     clear hK K
     try simp only [Act.put, List.setIfInBounds_toArray, List.set_cons_zero, List.set_cons_succ]
     refine wpAnyH_take (i := 16) (oi := { dst := some 139, op := Op.binOp BinOp.add 9 (Operand.tmp 131) (Operand.tmp 138) 9, type := 9, pos := "ref.go:117", after := #[{ on := 8, ground := Ground.data }, { on := 15, ground := Ground.data }], guard := none }) (v := ?_) rfl (by kernel_rfl) (by kernel_rfl) (by kernel_rfl) (fun _ _ _ h => h) (Or.inl ⟨by rfl, ?_⟩) (by assumption) ?_
     rotate_left
     ·intro w9 hSw
      obtain ⟨f7, g0, g1⟩ := hSw
      go_simp
      try with_reducible rfl
     try simp only [Act.put, List.setIfInBounds_toArray, List.set_cons_zero, List.set_cons_succ]
     refine wpAnyH_take (i := 17) (oi := { dst := some 9, op := Op.assign (Operand.tmp 139), type := 9, pos := "ref.go:117", after := #[{ on := 16, ground := Ground.data }, { on := 15, ground := Ground.chain }, { on := 0, ground := Ground.phase }, { on := 1, ground := Ground.phase }, { on := 2, ground := Ground.phase }, { on := 3, ground := Ground.phase }, { on := 4, ground := Ground.phase }, { on := 5, ground := Ground.phase }, { on := 6, ground := Ground.phase }, { on := 7, ground := Ground.phase }, { on := 8, ground := Ground.phase }, { on := 9, ground := Ground.phase }, { on := 10, ground := Ground.phase }, { on := 11, ground := Ground.phase }, { on := 12, ground := Ground.phase }, { on := 13, ground := Ground.phase }, { on := 14, ground := Ground.phase }, { on := 15, ground := Ground.phase }, { on := 16, ground := Ground.phase }], guard := none }) (v := ?_) rfl (by kernel_rfl) (by kernel_rfl) (by kernel_rfl) (fun _ _ _ h => h) (Or.inl ⟨by rfl, ?_⟩) (by assumption) ?_
     rotate_left
     ·intro w9 hSw
      obtain ⟨f7, g0, g1⟩ := hSw
      go_simp
      try with_reducible rfl
     try simp only [Act.put, List.setIfInBounds_toArray, List.set_cons_zero, List.set_cons_succ]
     refine wpAnyH_done (by kernel_rfl) ?_ _
     go_wp2_with fail
     go_roundw
     case rel => exact ⟨j + 1, _, by omega, rfl, by go_num, by first | exact HNEXT.out | (rw [← HNEXT.out]; simp only [ByteArray.append_assoc]), HBR2.out.trans (hy2.mono HBR2.out.size)⟩
     case measure => simp [intOf]; omega
    ·have b1 : ¬ (j : Int) < (rs.length : Int) := by omega
     have HFN := Lib.hid (show S2 = str8 ENC by
      rw [hS2, List.take_of_length_le (by omega), HENH.out, HWB.out]
      unfold rowB
      simp only [List.append_assoc])
     clear hS2
     go_wp2_with fail
     go_ret2
     exact ⟨by rw [← HFN.out]; rfl, hwr2⟩
theorem qeput_any (x : EntC) (w : World) (h : ShowsE w x) :
  Calls Tryz.prog 12 #[entV x] w fun e w' => e = .returned (.tuple #[.string (putE x.e), .int .i64 (errE x.e)]) ∧ Below w.heap.size w w' := by
 by_cases hv : validE x.e
 ·rw [putE_ok hv, errE_ok hv]; exact qeput_yes x w h hv
 ·exact qeput_no x w h hv
end Go.Proofs.YtdklhcmoilcpgaaGreat
