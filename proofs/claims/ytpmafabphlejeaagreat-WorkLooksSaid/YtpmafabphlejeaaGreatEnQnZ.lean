/-
  Texts, together: EnQn, EnRa, EnRb.
  Conditions: none but sizes.
-/
import Derived.Test.YtpmafabphlejeaaGreatEnPZ
import Derived.Test.YtpmafabphlejeaaGreatEnBZ
import Derived.Test.YtpmafabphlejeaaGreatPrRZ
import Derived.Deep.RegionHeld3
import Derived.Test.YtpmafabphlejeaaGreatEnE0Z
import Derived.Test.YtpmafabphlejeaaGreatRef04AZ
/-
  The contract of the document's QueueName.
  Conditions: none but sizes.
-/
namespace Go.Proofs.YtpmafabphlejeaaGreat
open Go.RowKit
set_option linter.unusedVariables false
set_option linter.unusedSimpArgs false

set_option maxHeartbeats 4000000 in
theorem qqname_any (s : ByteArray) (w : World) (hs : s.size ≤ 140737488355328) : Calls Tryz.prog 65 #[.string s] w fun e w' => e = .returned (.bool (qnOK s)) ∧ w' = w := by
  obtain ⟨R, hR⟩ : ∃ R, R = qnOK s := ⟨_, rfl⟩
  rw [← hR]
  have HR := Lib.hid hR
  clear hR
  have hl := sb_length s
  have HL := Lib.hid hl
  have HB := Lib.hid hs
  clear hl
  go_enter Tryz.func65, Tryz.ntmps65
  go_wp2_with fail
  go_loopw [3] (fun i wr => ∃ j : Nat, j ≤ s.size ∧ i = .int .i64 j ∧ wr = w ∧ ∀ k (h : k < (sb s).length), k < j → qcOK (sb s)[k] = true) (fun i _ => s.size - (intOf i).toNat)
  case atStart => exact ⟨0, by omega, rfl, rfl, fun k _ h => absurd h (by omega)⟩
  case round =>
    obtain ⟨j, hj, rfl, rfl, hok⟩ := hrel
    have hl := HL.out
    by_cases hlt : j < s.size
    · have b1 : (j : Int) < (s.size : Int) := by omega
      have b3 : IntKind.i64.wrap ((j : Int) + 1) = (j : Int) + 1 := i64_id _ (by omega) (by omega)
      have e1 : (sb s)[j]'(by omega) = s[j] := rfl
      by_cases hb : qcOK s[j] = true
      · have HS := Lib.hid (show ∀ k (h : k < (sb s).length), k < j + 1 → qcOK (sb s)[k] = true from fun k hk hkj => by
          by_cases c : k < j
          · exact hok k hk c
          · obtain rfl : k = j := by omega
            rw [e1]; exact hb)
        have t1 : decide ((s[j].toNat : Int) ≤ 32) = false := by simp [qcOK] at hb; simp; omega
        have t2 : decide ((127 : Int) ≤ (s[j].toNat : Int)) = false := by simp [qcOK] at hb; simp; omega
        clear hb hok e1 hl
        go_wp2_with fail
        go_roundw
        case rel => exact ⟨j + 1, by omega, by go_num, trivial, HS.out⟩
        case measure => simp [intOf]; omega
      · have hf : R = false := HR.out.trans (qnOK_false fun h => hb (by have := h.2.2 j (by omega); rwa [e1] at this))
        by_cases h33 : s[j].toNat ≤ 32
        case' pos => have t1 : decide ((s[j].toNat : Int) ≤ 32) = true := by simp; omega
        case' neg =>
          have t1 : decide ((s[j].toNat : Int) ≤ 32) = false := by simp; omega
          have t2 : decide ((127 : Int) ≤ (s[j].toNat : Int)) = true := by simp [qcOK] at hb; simp; omega
        all_goals
          clear hb hok e1 hl h33
          go_wp2_with fail
          go_ret
          first | exact ⟨rfl, rfl⟩ | exact ⟨by rw [hf]; rfl, rfl⟩
    · obtain rfl : j = s.size := by omega
      have b1 : ¬ (s.size : Int) < (s.size : Int) := by omega
      by_cases h0 : s.size = 0
      · have hf : R = false := HR.out.trans (qnOK_false (by omega))
        have t1 : decide ((1 : Int) ≤ (s.size : Int)) = false := by simp; omega
        clear hok hl h0
        go_wp2_with fail
        go_ret
        first | exact ⟨rfl, rfl⟩ | exact ⟨by rw [hf]; rfl, rfl⟩
      have t1 : decide ((1 : Int) ≤ (s.size : Int)) = true := by simp; omega
      by_cases h40 : 40 < s.size
      · have hf : R = false := HR.out.trans (qnOK_false (by omega))
        have t2 : decide ((s.size : Int) ≤ 40) = false := by simp; omega
        clear hok hl h0 h40
        go_wp2_with fail
        go_ret
        first | exact ⟨rfl, rfl⟩ | exact ⟨by rw [hf]; rfl, rfl⟩
      have t2 : decide ((s.size : Int) ≤ 40) = true := by simp; omega
      have hf : R = true := HR.out.trans ((qnOK_iff _).2 ⟨by omega, by omega, fun k hk => hok k hk (by omega)⟩)
      clear hok hl h0 h40
      go_wp2_with fail
      go_ret
      first | exact ⟨rfl, rfl⟩ | exact ⟨by rw [hf]; rfl, rfl⟩

end Go.Proofs.YtpmafabphlejeaaGreat
/-
  The contracts of the document's small functions of package entry: row, Id, number, text, MayPut.
  Conditions: none but sizes.
-/
namespace Go.Proofs.YtpmafabphlejeaaGreat
open Go.RowKit
set_option linter.unusedVariables false
set_option linter.unusedSimpArgs false
set_option maxRecDepth 100000

theorem results_tmp5 {fn : Func} {t u v x y : Tmp} (h : fn.results = #[.tmp t, .tmp u, .tmp v, .tmp x, .tmp y]) (tmps : Array Value) (P : Program) (w : World) :
    (results fn tmps).run P w = .ok (.tuple #[tmps.getD t undef, tmps.getD u undef, tmps.getD v undef, tmps.getD x undef, tmps.getD y undef]) w := by
  simp [results, h]
theorem qid_any (n : Nat) (w : World) : Calls Tryz.prog 66 #[.int .u64 n] w fun e w' => e = .returned (.bool (msgOK n)) ∧ w' = w := by
  obtain ⟨b1, h1⟩ : ∃ b1, b1 = decide (1 ≤ n) := ⟨_, rfl⟩
  obtain ⟨b2, h2⟩ : ∃ b2, b2 = decide (n ≤ 1099511627776) := ⟨_, rfl⟩
  have e : msgOK n = (b1 && b2) := by rw [h1, h2]; unfold msgOK; rw [Bool.decide_and]
  rw [e]
  have t1 : decide ((1 : Int) ≤ (n : Int)) = b1 := by rw [h1, Bool.eq_iff_iff]; simp only [decide_eq_true_eq]; omega
  have t2 : decide ((n : Int) ≤ 1099511627776) = b2 := by rw [h2, Bool.eq_iff_iff]; simp only [decide_eq_true_eq]; omega
  clear e h1 h2
  cases b1
  all_goals
    go_enter Tryz.func66, Tryz.ntmps66
    go_wp2_with fail
    go_ret
    exact ⟨by first | rfl | (rw [t2]; rfl), rfl⟩

/-- What MayPut tells. -/
noncomputable def qmayB (p : PutE) : Bool := qnOK p.q && ((decide (p.id = 0) || msgOK p.id) && (decide (errP p.p = 0) && (decide ((putPr p.p).size ≤ 8192) && decide (p.body.size ≤ 4096))))
theorem qmayB_eq (p : PutE) : qmayB p = (putOKB p && (decide (p.id = 0) || msgOK p.id)) := by
  rw [putOKB_eq]
  unfold qmayB
  cases qnOK p.q <;> cases decide (p.body.size ≤ 4096) <;> cases decide (errP p.p = 0) <;> cases decide ((putPr p.p).size ≤ 8192) <;> cases (decide (p.id = 0) || msgOK p.id) <;> rfl

set_option maxHeartbeats 4000000 in
theorem qmay_any (c : PutC) (w : World) (h : PutAt w c) :
    Calls Tryz.prog 63 #[putV c] w fun e w' => e = .returned (.bool (qmayB c.e)) ∧ Below w.heap.size w w' := by
  have HQ := Lib.hid (fun w' => qqname_any c.e.q w' (by have := h.q; omega))
  have HI := Lib.hid (fun w' => qid_any c.e.id w')
  have HP := Lib.hid (fun w' (hb : Below w.heap.size w w') => qpput_any c.e.p _ _ _ _ _ w' (h.pr.kept hb (Nat.le_refl _)))
  unfold qmayB
  obtain ⟨⟨q, id, ⟨key, dur, red, pid, app⟩, body⟩, ⟨k, n, ss, a3, n3, c3, a4, n4, c4⟩⟩ := c
  unfold putV
  unfold propV at HP
  simp only [] at HQ HP HI ⊢
  have hB := below_boxV w (Obj.cells #[.string q, .int .u64 id, .string key, .bool dur, .bool red, .string pid, .int .u8 k, .int .u64 n, .string ss, .slice a3 n3 c3, .slice a4 n4 c4, .string body] 35)
  have hX := BoxT.new (c := ⟨⟨q, id, ⟨key, dur, red, pid, app⟩, body⟩, ⟨k, n, ss, a3, n3, c3, a4, n4, c4⟩⟩) w
  obtain ⟨⟨e0, e1, e2, e3, e4, e5⟩, e6, e7, e8, e9, e10, e11⟩ := hX.cells
  simp only [] at e0 e1 e2 e3 e4 e5 e6 e7 e8 e9 e10 e11
  have HB := Lib.hid hB
  have HX := Lib.hid hX
  have HPX := Lib.hid (HP.out _ hB)
  generalize putPr ⟨key, dur, red, pid, app⟩ = S at *
  generalize errP ⟨key, dur, red, pid, app⟩ = E at *
  generalize qnOK q = b1 at *
  generalize msgOK id = b6 at *
  obtain ⟨b2, hb2⟩ : ∃ b2, b2 = decide (body.size ≤ 4096) := ⟨_, rfl⟩
  obtain ⟨b3, hb3⟩ : ∃ b3, b3 = decide (E = 0) := ⟨_, rfl⟩
  obtain ⟨b4, hb4⟩ : ∃ b4, b4 = decide (S.size ≤ 8192) := ⟨_, rfl⟩
  obtain ⟨b5, hb5⟩ : ∃ b5, b5 = decide (id = 0) := ⟨_, rfl⟩
  rw [← hb2, ← hb3, ← hb4, ← hb5]
  have t2 : decide ((body.size : Int) ≤ 4096) = b2 := by rw [hb2, Bool.eq_iff_iff]; simp only [decide_eq_true_eq]; omega
  have t3 : ((E : Int) == 0) = b3 := by rw [hb3, Bool.eq_iff_iff]; simp
  have t4 : decide ((S.size : Int) ≤ 8192) = b4 := by rw [hb4, Bool.eq_iff_iff]; simp only [decide_eq_true_eq]; omega
  have t5 : ((id : Int) == 0) = b5 := by rw [hb5, Bool.eq_iff_iff]; simp
  clear hb2 hb3 hb4 hb5 h hB hX HP
  go_enter Tryz.func63, Tryz.ntmps63
  go_wp2_with fail
  refine HPX.out.mono ?_
  rintro e w1 ⟨rfl, hb1⟩
  have hX1 := HX.out.kept hb1 (Nat.le_refl _)
  have HBB := Lib.hid (HB.out.trans (hb1.mono HB.out.size))
  clear e0 e1 e2 e3 e4 e5 e6 e7 e8 e9 e10 e11
  obtain ⟨⟨e0, e1, e2, e3, e4, e5⟩, e6, e7, e8, e9, e10, e11⟩ := hX1.cells
  simp only [] at e0 e1 e2 e3 e4 e5 e6 e7 e8 e9 e10 e11
  clear hX1 hb1
  go_wp2_with fail
  refine (HQ.out _).mono ?_
  rintro e w2 ⟨rfl, rfl⟩
  cases b1 with
  | false =>
    go_wp2_with fail
    go_ret
    exact ⟨rfl, HBB.out⟩
  | true =>
  cases b5 with
  | true =>
    cases b3
    case' true => cases b4
    all_goals
      go_wp2_with fail
      go_ret
      exact ⟨by first | rfl | (rw [t2]; rfl), HBB.out⟩
  | false =>
    go_wp2_with fail
    refine (HI.out _).mono ?_
    rintro e w3 ⟨rfl, rfl⟩
    cases b6
    case' true =>
      cases b3
      case' true => cases b4
    all_goals
      go_wp2_with fail
      go_ret
      exact ⟨by first | rfl | (rw [t2]; rfl), HBB.out⟩

end Go.Proofs.YtpmafabphlejeaaGreat
/-
  The contract of the document's Check of an entry.
  Conditions: none but sizes.
-/
namespace Go.Proofs.YtpmafabphlejeaaGreat
open Go.RowKit
set_option linter.unusedVariables false
set_option linter.unusedSimpArgs false
set_option maxRecDepth 100000

/-- What the document asks of a put in an entry of a kind. -/
noncomputable def dput (k : Nat) (p : PutE) : Bool := qmayB p && (decide (p.id = 0) == decide (k = 4))
theorem dput_iff {k : Nat} (hk : uWork k = true) (p : PutE) : dput k p = true ↔ putMay (decide (k = 3)) p := by
  unfold dput putMay putNum
  rw [qmayB_eq]
  unfold putOKB msgOK
  have hk' : k = 3 ∨ k = 4 := of_decide_eq_true hk
  rcases hk' with rfl | rfl
  · simp
    constructor
    · rintro ⟨⟨h1, h2⟩, h3⟩; exact ⟨by omega, h1⟩
    · rintro ⟨h1, h2⟩; exact ⟨⟨h2, by omega⟩, by omega⟩
  · simp
    constructor
    · rintro ⟨⟨h1, h2⟩, h3⟩; exact ⟨h3, h1⟩
    · rintro ⟨h1, h2⟩; exact ⟨⟨h2, .inl h1⟩, h1⟩
theorem docE_iff (x : EntC) : validE x.e ↔ (kindOK x.k = true ∧ x.cs.length ≤ 100 ∧ x.rs.length ≤ 100) ∧ (tstName x.e = true ∧ tstNum x.e = true) ∧ (tstX x.e = true ∧ (uWork x.k = true ∨ x.cs.length + x.rs.length = 0)) ∧ (∀ j (h : j < x.cs.length), dput x.k x.cs[j].e = true) ∧ (∀ j (h : j < x.rs.length), refMay x.rs[j] = true) := by
  rw [tests_eq]
  have e1 : x.e.puts = esOf x.cs := rfl
  have e2 : x.e.takes = x.rs := rfl
  have e3 : x.e.k = x.k := rfl
  have ht : tstWork x.e = true ↔ (x.cs.length ≤ 100 ∧ x.rs.length ≤ 100) ∧ (uWork x.k = true ∨ x.cs.length + x.rs.length = 0) ∧ (∀ j (h : j < x.cs.length), dput x.k x.cs[j].e = true) ∧ (∀ j (h : j < x.rs.length), refMay x.rs[j] = true) := by
    unfold tstWork rightD
    rw [e1, e2, e3, esOf_len]
    cases hw : uWork x.k with
    | false =>
      simp only [Bool.false_eq_true, if_false, decide_eq_true_eq, false_or]
      constructor
      · intro h
        exact ⟨⟨by omega, by omega⟩, h, fun j hj => absurd hj (by omega), fun j hj => absurd hj (by omega)⟩
      · exact fun h => h.2.1
    | true =>
      simp only [if_true, true_or, true_and]
      have hwb : wrkB x.e = true ↔ workOK x.e := by unfold wrkB; simp only [decide_eq_true_eq]
      rw [hwb]
      unfold workOK
      rw [e1, e2, e3, esOf_len]
      constructor
      · rintro ⟨h1, h2, h3, h4⟩
        exact ⟨⟨h1, h2⟩, fun j hj => (dput_iff hw _).2 (h3 _ (List.mem_map.2 ⟨x.cs[j], List.getElem_mem hj, rfl⟩)), fun j hj => h4 _ (List.getElem_mem hj)⟩
      · rintro ⟨⟨h1, h2⟩, h3, h4⟩
        refine ⟨h1, h2, fun p hp => ?_, fun r hr => ?_⟩
        · obtain ⟨c, hc, rfl⟩ := List.mem_map.1 hp
          obtain ⟨j, hj, rfl⟩ := List.getElem_of_mem hc
          exact (dput_iff hw _).1 (h3 j hj)
        · obtain ⟨j, hj, rfl⟩ := List.getElem_of_mem hr
          exact h4 j hj
  rw [ht, e3]
  constructor
  · rintro ⟨h1, h2, h3, h4, ⟨h5, h6⟩, h7, h8, h9⟩; exact ⟨⟨h1, h5, h6⟩, ⟨h2, h3⟩, ⟨h4, h7⟩, h8, h9⟩
  · rintro ⟨⟨h1, h5, h6⟩, ⟨h2, h3⟩, ⟨h4, h7⟩, h8, h9⟩; exact ⟨h1, h2, h3, h4, ⟨h5, h6⟩, h7, h8, h9⟩

theorem qxcheck_any (f : Nat) (g h : ByteArray) (w : World) (hg : g.size ≤ 140737488355328) (hh : h.size ≤ 140737488355328) :
    Calls Tryz.prog 49 #[xidV f g h] w fun e w' => e = .returned (.int .i64 (errX g h)) ∧ Below w.heap.size w w' := by
  unfold errX mayXB
  by_cases hm : mayX g h
  · rw [if_pos (decide_eq_true hm)]; exact qcheck_ok f g h w hm
  · rw [if_neg (by simpa using hm)]; exact qcheck_no f g h w hm hg hh

end Go.Proofs.YtpmafabphlejeaaGreat
