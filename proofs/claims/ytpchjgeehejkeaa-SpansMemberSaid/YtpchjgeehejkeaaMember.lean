/-
  SpansMember: for every input the law returns true, and its arguments read as before.
  Conditions: none.
-/
import Derived.Test.YtpchjgeehejkeaaSpJ
namespace Go.Proofs.Ytpchjgeehejkeaa
open Go.ChangeShapes Go.WideShapes Go.ChangeAt Go.RowKit
set_option linter.unusedVariables false
set_option linter.unusedSimpArgs false

theorem canonFrom_len : ∀ {c : Nat} {l : List Sp} (N : Nat), canonFrom c l → (∀ s ∈ l, s.2 < N) → c < N → 2 * l.length + c ≤ N + 1
  | c, [], N, _, _, h => by simp; omega
  | c, s :: l, N, ⟨h1, h2, h3⟩, hu, h => by
    have hs := hu s (List.mem_cons_self ..)
    by_cases h4 : s.2 + 2 < N
    · have := canonFrom_len N h3 (fun t ht => hu t (List.mem_cons_of_mem _ ht)) h4
      simp; omega
    · cases l with
      | nil => simp; omega
      | cons t l =>
        have ht := hu t (by simp)
        have := h3.1
        have := h3.2.1
        omega
theorem canon_len {l : List Sp} (hc : canon l) (hu : u32s l) : l.length ≤ 2147483648 := by
  have := canonFrom_len 4294967296 hc (fun s hs => (hu s hs).2) (by omega)
  omega

theorem pairSaid_ok {m : Nat} {a b : List Sp} {n1 n2 : Nat} {v : Value} {c : Int} {r : List Sp} (h1 : PairSaid m a b n1 n2 v c r) (ha : canon a) (hb : canon b) : c = 0 ∧ canon r ∧ (∀ n, memS r n ↔ opM m a b n) ∧ u32s r := by
  rcases h1 with ⟨_, _, h1, h2, h3, h4, _⟩ | ⟨h, _⟩
  · exact ⟨h1, h2, h3, h4⟩
  · exact absurd ⟨ha, hb⟩ h
theorem changeSaid_ok {m : Nat} {a : List Sp} {n1 x y : Nat} {v : Value} {c : Int} {r : List Sp} (h1 : ChangeSaid m a n1 x y v c r) (ha : canon a) (hxy : x ≤ y) : c = 0 ∧ canon r ∧ (∀ n, memS r n ↔ opM m a [(x, y)] n) ∧ u32s r := by
  rcases h1 with ⟨_, _, h1, h2, h3, h4, _⟩ | ⟨h, _⟩ | ⟨_, h, _⟩
  · exact ⟨h1, h2, h3, h4⟩
  · exact absurd ha h
  · exact absurd hxy h

/-- What is left of a when the first k spans of b are cut from it. -/
def CutTo (a b : List Sp) (k : Nat) (o : List Sp) : Prop := canon o ∧ u32s o ∧ ∀ m, memS o m ↔ memS a m ∧ ¬ memS (b.take k) m
theorem cutTo_zero {a b : List Sp} (ha : canon a) (hu : u32s a) : CutTo a b 0 a := ⟨ha, hu, fun m => by simp [memS_nil]⟩

theorem opM_dec {m : Nat} {a b r : List Sp} {n : Nat} (h : memS r n ↔ opM m a b n) : decide (memS r n) = opB m (decide (memS a n)) (decide (memS b n)) := by
  rw [Bool.eq_iff_iff, decide_eq_true_eq, h]
  rfl

set_option maxRecDepth 100000 in
set_option maxHeartbeats 16000000 in
theorem member_main (A1 : Option Addr) (c1 d1 : Nat) (a : List Sp) (A2 : Option Addr) (c2 d2 : Nat) (b : List Sp) (n : Nat) (w : World) (h1 : ShowsG spanC w d1 (.slice A1 a.length c1) a) (hu1 : u32s a) (hl1 : a.length ≤ 60)
    (h2 : ShowsG spanC w d2 (.slice A2 b.length c2) b) (hu2 : u32s b) (hl2 : b.length ≤ 60) (hn : n < 4294967296) (ha : canon a) (hb : canon b) :
    Calls Try.prog 8 #[.slice A1 a.length c1, .slice A2 b.length c2, .int .u32 n] w fun e w' => e = .returned (.bool true) ∧ Below w.heap.size w w' := by
  have hhead := Lib.hid (fun w' => head_any w')
  have h62 : decide ((60 : Int) < (a.length : Int)) = false := by simp; omega
  have h64 : decide ((60 : Int) < (b.length : Int)) = false := by simp; omega
  have R1 := Lib.hid (fun w' (hb' : Below w.heap.size w w') => right_any A1 c1 a.length d1 a w' rfl (h1.below' hb' (Nat.le_refl _)) hu1 (by omega))
  have R2 := Lib.hid (fun w' (hb' : Below w.heap.size w w') => right_any A2 c2 b.length d2 b w' rfl (h2.below' hb' (Nat.le_refl _)) hu2 (by omega))
  have M1 := Lib.hid (fun w' (hb' : Below w.heap.size w w') => has_any A1 c1 a.length d1 n a w' rfl (h1.below' hb' (Nat.le_refl _)) hu1 (by omega) hn)
  have M2 := Lib.hid (fun w' (hb' : Below w.heap.size w w') => has_any A2 c2 b.length d2 n b w' rfl (h2.below' hb' (Nat.le_refl _)) hu2 (by omega) hn)
  have C2 := Lib.hid (fun w' (hb' : Below w.heap.size w w') => count_any A2 c2 b.length d2 b w' rfl (h2.below' hb' (Nat.le_refl _)) hu2 (by omega))
  have H22 := Lib.hid (fun w' (hb' : Below w.heap.size w w') => both_any A1 A2 c1 c2 a.length b.length d1 d2 a b w' rfl rfl (h1.below' hb' (Nat.le_refl _)) (h2.below' hb' (Nat.le_refl _)) hu1 hu2 (by omega) (by omega))
  have H23 := Lib.hid (fun w' (hb' : Below w.heap.size w w') => either_any A1 A2 c1 c2 a.length b.length d1 d2 a b w' rfl rfl (h1.below' hb' (Nat.le_refl _)) (h2.below' hb' (Nat.le_refl _)) hu1 hu2 (by omega) (by omega))
  have H18 := Lib.hid (fun w' (hb' : Below w.heap.size w w') => add_any A1 c1 a.length d1 n n a w' rfl (h1.below' hb' (Nat.le_refl _)) hu1 (by omega) hn hn)
  -- of any list of the call's own
  have R := Lib.hid (fun A c g (r : List Sp) w' (hs : ShowsG spanC w' g (.slice A r.length c) r) (hu : u32s r) (hc : canon r) => right_any A c r.length g r w' rfl hs hu (by have := canon_len hc hu; omega))
  have M := Lib.hid (fun A c g (r : List Sp) w' (hs : ShowsG spanC w' g (.slice A r.length c) r) (hu : u32s r) (hc : canon r) => has_any A c r.length g n r w' rfl hs hu (by have := canon_len hc hu; omega) hn)
  have C := Lib.hid (fun A c g (r : List Sp) w' (hs : ShowsG spanC w' g (.slice A r.length c) r) (hu : u32s r) (hc : canon r) => count_any A c r.length g r w' rfl hs hu (by have := canon_len hc hu; omega))
  have H20 := Lib.hid (fun A c g (r : List Sp) f t w' (hs : ShowsG spanC w' g (.slice A r.length c) r) (hu : u32s r) (hc : canon r) hf ht => cut_any A c r.length g f t r w' rfl hs hu (by have := canon_len hc hu; omega) hf ht)
  rw [show decide (canon a) = true by simpa using ha] at R1 M1
  rw [show decide (canon b) = true by simpa using hb] at R2 M2
  rw [if_pos hb] at C2
  rw [Bool.true_and] at M1 M2
  obtain ⟨x, hx⟩ : ∃ x, decide (memS a n) = x := ⟨_, rfl⟩
  obtain ⟨y, hy⟩ : ∃ y, decide (memS b n) = y := ⟨_, rfl⟩
  rw [hx] at M1
  rw [hy] at M2
  have HX := Lib.hid hx
  have HY := Lib.hid hy
  have HA := Lib.hid ha
  have HB := Lib.hid hb
  have HU1 := Lib.hid hu1
  have HU2 := Lib.hid hu2
  have HS1 := Lib.hid h1
  have HS2 := Lib.hid h2
  clear hx hy ha hb hu1 hu2 h1 h2
  go_enter Try.func8, Try.ntmps8
  go_wp2_with fail
  refine (R1.out w (Below.refl _ _)).mono ?_
  rintro e w1 ⟨rfl, b1⟩
  go_wp2_with fail
  refine (R2.out w1 b1).mono ?_
  rintro e w2 ⟨rfl, b2⟩
  have b2 := b1.trans (b2.mono b1.size)
  go_wp2_with fail
  refine (M1.out w2 b2).mono ?_
  rintro e w3 ⟨rfl, b3⟩
  have b3 := b2.trans (b3.mono b2.size)
  go_wp2_with fail
  refine (M2.out w3 b3).mono ?_
  rintro e w4 ⟨rfl, b4⟩
  have b4 := b3.trans (b4.mono b3.size)
  go_wp2_with fail
  refine (H22.out w4 b4).mono ?_
  rintro e w5 ⟨vc, code5, r5, rfl, o5, b5, s5⟩
  have b5' := b4.trans (b5.mono b4.size)
  obtain ⟨rfl, p5, q5, u5⟩ := pairSaid_ok s5 HA.out HB.out
  go_wp2_with fail
  refine (H23.out w5 b5').mono ?_
  rintro e w6 ⟨vd, code6, r6, rfl, o6, b6, s6⟩
  have b6' := b5'.trans (b6.mono b5'.size)
  obtain ⟨rfl, p6, q6, u6⟩ := pairSaid_ok s6 HA.out HB.out
  have o5' := o5.below b6 (Nat.le_refl _)
  obtain ⟨A5, c5, rfl, _, _⟩ := o5'.form
  obtain ⟨A6, c6, rfl, _, _⟩ := o6.form
  obtain ⟨g5, _, t5⟩ := o5'.shows
  obtain ⟨g6, _, t6⟩ := o6.shows
  have T5 := Lib.hid t5
  have T6 := Lib.hid t6
  have P5 := Lib.hid p5
  have P6 := Lib.hid p6
  have U5 := Lib.hid u5
  have U6 := Lib.hid u6
  have Q6 := Lib.hid q6
  have RR5 := Lib.hid (fun w' (hb' : Below w6.heap.size w6 w') => R.out A5 c5 g5 r5 w' (T5.out.below' hb' (Nat.le_refl _)) U5.out P5.out)
  have RR6 := Lib.hid (fun w' (hb' : Below w6.heap.size w6 w') => R.out A6 c6 g6 r6 w' (T6.out.below' hb' (Nat.le_refl _)) U6.out P6.out)
  have MM5 := Lib.hid (fun w' (hb' : Below w6.heap.size w6 w') => M.out A5 c5 g5 r5 w' (T5.out.below' hb' (Nat.le_refl _)) U5.out P5.out)
  have MM6 := Lib.hid (fun w' (hb' : Below w6.heap.size w6 w') => M.out A6 c6 g6 r6 w' (T6.out.below' hb' (Nat.le_refl _)) U6.out P6.out)
  have CC6 := Lib.hid (fun w' (hb' : Below w6.heap.size w6 w') => C.out A6 c6 g6 r6 w' (T6.out.below' hb' (Nat.le_refl _)) U6.out P6.out)
  have m5 : decide (memS r5 n) = (x && y) := by
    rw [opM_dec (q5 n), HX.out, HY.out]
    rfl
  have m6 : decide (memS r6 n) = (x || y) := by
    rw [opM_dec (q6 n), HX.out, HY.out]
    rfl
  rw [show decide (canon r5) = true by simpa using p5] at RR5 MM5
  rw [show decide (canon r6) = true by simpa using p6] at RR6 MM6
  rw [Bool.true_and, m5] at MM5
  rw [Bool.true_and, m6] at MM6
  rw [if_pos p6] at CC6
  clear s5 s6 o5 o6 o5' t5 t6 p5 p6 u5 u6 q5 q6 m5 m6 R1 R2 M1 M2 H22 H23 b2 b3
  go_wp2_with fail
  refine (RR5.out w6 (Below.refl _ _)).mono ?_
  rintro e w7 ⟨rfl, b7⟩
  go_wp2_with fail
  refine (RR6.out w7 b7).mono ?_
  rintro e w8 ⟨rfl, b8⟩
  have b8 := b7.trans (b8.mono b7.size)
  go_wp2_with fail
  refine (MM5.out w8 b8).mono ?_
  rintro e w9 ⟨rfl, b9⟩
  have b9 := b8.trans (b9.mono b8.size)
  cases x <;> cases y
  all_goals
    go_wp2_with fail
    refine (MM6.out w9 b9).mono ?_
    rintro e w10 ⟨rfl, b10⟩
    have b10 := b9.trans (b10.mono b9.size)
    have b10' := b6'.trans (b10.mono b6'.size)
    go_wp2_with fail
    clear MM5 MM6 RR5 RR6 b1 b2 b3 b4 b5 b5' b6 b7 b8 b9
    go_loopw [13, 14] (fun s13 s14 wr => ∃ (k : Nat) (o : List Sp) (Ao : Option Addr) (co go : Nat), s14 = .int .i64 k ∧ s13 = .slice Ao o.length co ∧ k ≤ b.length ∧ Hid (ShowsG spanC wr go (.slice Ao o.length co) o) ∧ Hid (CutTo a b k o) ∧ Below w6.heap.size w6 wr) (fun _ s _ => b.length - (intOf s).toNat)
    case atStart => exact ⟨0, a, A1, c1, d1, rfl, rfl, Nat.zero_le _, Lib.hid (HS1.out.below' b10' (Nat.le_refl _)), Lib.hid (cutTo_zero HA.out HU1.out), b10⟩
    case round =>
      rename World => wr
      obtain ⟨k, o, Ao, co, go, rfl, rfl, hk, HO, HCT, hbw⟩ := hrel
      have hbw' : Below w.heap.size w wr := b6'.trans (hbw.mono b6'.size)
      by_cases hlt : k < b.length
      · obtain ⟨off, hA2, _, hcl⟩ := (HS2.out.below' hbw' (Nat.le_refl _)).at_ (by omega)
        subst hA2
        have k1 := span_cell1 hcl hlt
        have k2 := span_cell2 hcl hlt
        obtain ⟨f1, f2⟩ := u32s_get HU2.out hlt
        have hft := canon_le_ HB.out hlt
        have hkl : (k : Int) < (b.length : Int) := by omega
        have HSTEP := Lib.hid (fun (l : List Sp) (hl : ∀ n, memS l n ↔ opM 2 o [(b[k].1, b[k].2)] n) n => memS_cut_step hlt HCT.out.2.2 hl n)
        generalize b[k].1 = f at *
        generalize b[k].2 = t at *
        have hcut := Lib.hid (fun W (hs : ShowsG spanC W go (.slice Ao o.length co) o) => H20.out Ao co go o f t W hs HCT.out.2.1 HCT.out.1 f1 f2)
        have HF := Lib.hid hft
        clear hcl hft f1 f2
        go_wp2_with fail
        go_region_with ((go_at_call 20; refine (hcut.out _ (by exact HO.out)).mono ?_; rintro e w11 ⟨vl, code11, l, rfl, o11, b11, s11⟩))
        all_goals
          have b11' : Below wr.heap.size wr w11 := (Below.refl wr.heap.size wr).drew.trans b11
          obtain ⟨rfl, p11, q11, u11⟩ := changeSaid_ok s11 HCT.out.1 HF.out
          obtain ⟨A11, c11, rfl, _, _⟩ := o11.form
          obtain ⟨g11, _, t11⟩ := o11.shows
          have T11 := Lib.hid t11
          have CT11 : Hid (CutTo a b (k + 1) l) := Lib.hid ⟨p11, u11, HSTEP.out l q11⟩
          have R11 := Lib.hid (R.out A11 c11 g11 l w11 t11 u11 p11)
          rw [show decide (canon l) = true by simpa using p11] at R11
          have hbw11 := hbw.trans (b11'.mono hbw.size)
          clear s11 p11 q11 u11 o11 t11 b11 b11' HSTEP hcut HF
          go_wp2_with fail
          refine R11.out.mono ?_
          rintro e w12 ⟨rfl, b12⟩
          go_wp2_with fail
          go_roundw
          case rel => exact ⟨k + 1, l, A11, c11, g11, by go_num, rfl, by omega, Lib.hid (T11.out.below' b12 (Nat.le_refl _)), CT11, hbw11.trans (b12.mono hbw11.size)⟩
          case measure => simp [intOf]; omega
      · obtain rfl : k = b.length := by omega
        have hct := HCT.out
        have hmo : ∀ m, memS o m ↔ memS a m ∧ ¬ memS b m := fun m => by
          have := hct.2.2 m
          rwa [List.take_length] at this
        have MO := Lib.hid (M.out Ao co go o wr HO.out hct.2.1 hct.1)
        have CO := Lib.hid (fun w' (hb' : Below wr.heap.size wr w') => C.out Ao co go o w' (HO.out.below' hb' (Nat.le_refl _)) hct.2.1 hct.1)
        have hsum : cntS o + cntS b = cntS r6 := cntS_union HB.out P6.out hct.1 HU2.out U6.out hct.2.1 (fun m => by rw [Q6.out m, opM_one]) hmo
        have hle := cntS_le r6 P6.out U6.out
        rw [show decide (canon o) = true by simpa using hct.1, Bool.true_and, opM_dec (m := 2) (a := a) (b := b) (r := o) (n := n) ((hmo n).trans (opM_two a b n).symm), HX.out, HY.out] at MO
        rw [if_pos hct.1] at CO
        generalize cntS o = ko at *
        generalize cntS b = kb' at *
        generalize cntS r6 = kd at *
        subst hsum
        have CC2 := Lib.hid (fun w' (hb' : Below wr.heap.size wr w') => C2.out w' (hbw'.trans (hb'.mono hbw'.size)))
        have CC66 := Lib.hid (fun w' (hb' : Below wr.heap.size wr w') => CC6.out w' (hbw.trans (hb'.mono hbw.size)))
        have ADD := Lib.hid (fun w' (hb' : Below wr.heap.size wr w') => H18.out w' (hbw'.trans (hb'.mono hbw'.size)))
        have y1 : ((ko : Int) + (kb' : Int)) % 18446744073709551616 = (ko : Int) + (kb' : Int) := by omega
        clear hct hmo HO HCT CC6 C2 H18 H20
        simp only [opB] at MO
        go_wp2_with fail
        refine MO.out.mono ?_
        rintro e w11 ⟨rfl, b11⟩
        go_wp2_with fail
        refine (CO.out w11 b11).mono ?_
        rintro e w12 ⟨rfl, b12⟩
        have b12 := b11.trans (b12.mono b11.size)
        go_wp2_with fail
        refine (CC2.out w12 b12).mono ?_
        rintro e w13 ⟨rfl, b13⟩
        have b13 := b12.trans (b13.mono b12.size)
        go_wp2_with fail
        refine (CC66.out w13 b13).mono ?_
        rintro e w14 ⟨rfl, b14⟩
        have b14 := b13.trans (b14.mono b13.size)
        go_wp2_with fail
        refine (ADD.out w14 b14).mono ?_
        rintro e w15 ⟨vl, code15, l, rfl, o15, b15, s15⟩
        have b15' := b14.trans (b15.mono b14.size)
        obtain ⟨rfl, p15, q15, u15'⟩ := changeSaid_ok s15 HA.out (Nat.le_refl _)
        obtain ⟨A15, c15, rfl, _, _⟩ := o15.form
        obtain ⟨g15, _, t15⟩ := o15.shows
        have R15 := Lib.hid (R.out A15 c15 g15 l w15 t15 u15' p15)
        have M15 := Lib.hid (fun w' (hb' : Below w15.heap.size w15 w') => M.out A15 c15 g15 l w' (t15.below' hb' (Nat.le_refl _)) u15' p15)
        have hin : decide (memS l n) = true := by
          refine decide_eq_true ((q15 n).2 ((opM_one _ _ _).2 (.inr ?_)))
          rw [memS_one]
          omega
        rw [show decide (canon l) = true by simpa using p15] at R15 M15
        rw [hin] at M15
        clear s15 p15 q15 u15' o15 t15 b15 hin
        go_wp2_with fail
        refine R15.out.mono ?_
        rintro e w16 ⟨rfl, b16⟩
        go_wp2_with fail
        refine (M15.out w16 b16).mono ?_
        rintro e w17 ⟨rfl, b17⟩
        have b17 := b16.trans (b17.mono b16.size)
        have b17' := b15'.trans (b17.mono b15'.size)
        have bfin := hbw'.trans (b17'.mono hbw'.size)
        go_wp2_with fail
        refine (hhead.out _).mono ?_
        rintro e w18 ⟨rfl, b18⟩
        go_wp2_with fail
        go_ret
        exact ⟨rfl, bfin.trans (b18.mono bfin.size)⟩

set_option maxRecDepth 100000 in
set_option maxHeartbeats 6400000 in
theorem member_walk (A1 : Option Addr) (c1 d1 : Nat) (a : List Sp) (A2 : Option Addr) (c2 d2 : Nat) (b : List Sp) (n : Nat) (w : World) (h1 : ShowsG spanC w d1 (.slice A1 a.length c1) a) (hu1 : u32s a) (hb1 : a.length ≤ 17592186044416)
    (h2 : ShowsG spanC w d2 (.slice A2 b.length c2) b) (hu2 : u32s b) (hb2 : b.length ≤ 17592186044416) (hn : n < 4294967296) :
    Calls Try.prog 8 #[.slice A1 a.length c1, .slice A2 b.length c2, .int .u32 n] w fun e w' => e = .returned (.bool true) ∧ Below w.heap.size w w' := by
  have hhead := Lib.hid (fun w' => head_any w')
  have R1 := Lib.hid (fun w' (hb' : Below w.heap.size w w') => right_any A1 c1 a.length d1 a w' rfl (h1.below' hb' (Nat.le_refl _)) hu1 hb1)
  have R2 := Lib.hid (fun w' (hb' : Below w.heap.size w w') => right_any A2 c2 b.length d2 b w' rfl (h2.below' hb' (Nat.le_refl _)) hu2 hb2)
  by_cases h61 : (60 : Int) < (a.length : Int)
  · clear h1 h2
    have h62 : decide ((60 : Int) < (a.length : Int)) = true := by simp; omega
    clear h61
    go_enter Try.func8, Try.ntmps8
    go_wp2_with fail
    refine (hhead.out _).mono ?_
    rintro e w1 ⟨rfl, hb1⟩
    go_wp2_with fail
    go_ret
    exact ⟨rfl, hb1⟩
  · have h62 : decide ((60 : Int) < (a.length : Int)) = false := by simp; omega
    by_cases h63 : (60 : Int) < (b.length : Int)
    · clear h1 h2 h61
      have h64 : decide ((60 : Int) < (b.length : Int)) = true := by simp; omega
      clear h63
      go_enter Try.func8, Try.ntmps8
      go_wp2_with fail
      refine (hhead.out _).mono ?_
      rintro e w1 ⟨rfl, hb1⟩
      go_wp2_with fail
      go_ret
      exact ⟨rfl, hb1⟩
    · have h64 : decide ((60 : Int) < (b.length : Int)) = false := by simp; omega
      by_cases ha : canon a
      · rw [show decide (canon a) = true by simpa using ha] at R1
        by_cases hb : canon b
        · rw [show decide (canon b) = true by simpa using hb] at R2
          exact member_main A1 c1 d1 a A2 c2 d2 b n w h1 hu1 (by omega) h2 hu2 (by omega) hn ha hb
        · rw [show decide (canon b) = false by simpa using hb] at R2
          clear h1 h2 h61 h63
          go_enter Try.func8, Try.ntmps8
          go_wp2_with fail
          refine (R1.out w (Below.refl _ _)).mono ?_
          rintro e w1 ⟨rfl, b1⟩
          go_wp2_with fail
          refine (R2.out w1 b1).mono ?_
          rintro e w2 ⟨rfl, b2⟩
          have b2' := b1.trans (b2.mono b1.size)
          go_wp2_with fail
          refine (hhead.out _).mono ?_
          rintro e w3 ⟨rfl, b3⟩
          go_wp2_with fail
          go_ret
          exact ⟨rfl, b2'.trans (b3.mono b2'.size)⟩
      · rw [show decide (canon a) = false by simpa using ha] at R1
        clear h1 h2 h61 h63
        go_enter Try.func8, Try.ntmps8
        go_wp2_with fail
        refine (R1.out w (Below.refl _ _)).mono ?_
        rintro e w1 ⟨rfl, b1⟩
        go_wp2_with fail
        refine (hhead.out _).mono ?_
        rintro e w3 ⟨rfl, b3⟩
        go_wp2_with fail
        go_ret
        exact ⟨rfl, b1.trans (b3.mono b1.size)⟩

set_option maxRecDepth 100000 in
theorem member_walk_lifted (os : Os) (started : os.Started) (H : Type) (enc : TypeId × Value → H) :
    ReturnsInHanded {} Try.checked os 8 .any (Rows.spansMemberSpec.pre6 enc Try.prog Try.f8 Rows.spansMemberRow.domain false) (Rows.spansMemberSpec.post enc Try.prog Try.f8 false true false false) := by
  refine returnsInHanded_of_change_sized (C := Try.checked) own started (by kernel_rfl) Try.func8
    (ChangeSpec.witness6 (enc := enc) (C := Try.checked) false ⟨#[], #[.slice none 0 0, .slice none 0 0, .int .u32 0], []⟩ 8 (by kernel_rfl) (by kernel_rfl) (by kernel_rfl) (by kernel_rfl)) ?_
  intro W base args ds gs before hval0 hW hcnd hsz0 _
  have hval : ∀ (j : Nat) t v, Try.f8.params[j]? = some t → args[j]? = some v → Value.okWide Try.prog W .any base t v := hval0
  have hsz : (DataW.weightsEach Try.prog (Try.f8.params.toList ++ Rows.spansMemberSpec.plain.varTypes Try.prog) (ds ++ gs)).all (· ≤ reachBytes) = true := hsz0
  have hW' := hW
  obtain ⟨p, q, hA0, hV, rfl, hfz, hnd⟩ := hW
  have hA : DataW.TrodAll enc Try.prog W 0 (fun _ => true) true Try.f8.params.toList args.toList ds p := hA0
  rw [Try.params8] at hA hval hsz
  obtain ⟨v0, vs0, d0, ds0, p0, q0, hargs, rfl, rfl, h0, r0⟩ := trodAll_cons hA
  obtain ⟨v1, vs1, d1, ds1, p1, q1, rfl, rfl, rfl, h1, r1⟩ := trodAll_cons r0
  obtain ⟨v2, vs2, d2, ds2, p2, q2, rfl, rfl, rfl, h2, r2⟩ := trodAll_cons r1
  obtain ⟨rfl, rfl, rfl⟩ := trodAll_nil r2
  obtain rfl : args = #[v0, v1, v2] := by cases args; simp_all
  obtain ⟨rfl, rfl⟩ := trodVars_none hV
  have k0 := h0
  have lt0 : ∀ x ∈ p0, x.block < W.heap.size := by obtain ⟨m, hm⟩ := k0; exact DataW.trod_lt m _ _ _ hm
  have k1 := h1
  have lt1 : ∀ x ∈ p1, x.block < W.heap.size := by obtain ⟨m, hm⟩ := k1; exact DataW.trod_lt m _ _ _ hm
  have k2 := h2
  have lt2 : ∀ x ∈ p2, x.block < W.heap.size := by obtain ⟨m, hm⟩ := k2; exact DataW.trod_lt m _ _ _ hm
  obtain ⟨A0, c0, b0, L0, rfl, sh0, l0, hu0⟩ := open_spans (hval 0 22 v0 rfl rfl) h0 hsz 0 rfl rfl
  obtain ⟨A1, c1, b1, L1, rfl, sh1, l1, hu1⟩ := open_spans (hval 1 22 v1 rfl rfl) h1 hsz 1 rfl rfl
  obtain ⟨s2, rfl, rfl, rfl, ws2⟩ := open_int Try.underlying23 (hval 2 23 v2 rfl rfl) h2
  obtain ⟨s20, s21⟩ := u32_range ws2
  obtain ⟨S2, rfl⟩ := Int.eq_ofNat_of_zero_le s20
  clear hA0 hval0
  refine (member_walk A0 c0 b0 L0 A1 c1 b1 L1 S2 W sh0 hu0 (by omega) sh1 hu1 (by omega) (by omega)).mono fun e W' ⟨he, bel⟩ => ?_
  subst he
  exact ⟨_, rfl, _, _, _, [], _, [], hW', trodAll_mk1 (shut_bool Try.underlying4 _), (trodAll_cons_mk (Below.trod laidOut (by kernel_rfl) (of_decide_eq_true (by kernel_rfl)) k0 bel lt0) (trodAll_cons_mk (Below.trod laidOut (by kernel_rfl) (of_decide_eq_true (by kernel_rfl)) k1 bel lt1) (trodAll_cons_mk (Below.trod laidOut (by kernel_rfl) (of_decide_eq_true (by kernel_rfl)) k2 bel lt2) trodAll_mk0))), rfl, bel.frame _, fun h => by cases h⟩

theorem spansMember_holds : Rows.SpansMemberSaid :=
  OpenClaim.holds_of_wide 8 Try.f8 rfl rfl rfl rfl rfl rfl rfl ⟨rfl, rfl, rfl, rfl, rfl⟩ rfl rfl rfl rfl rfl (by kernel_rfl) Try.func8 (by kernel_rfl)
    (of_decide_eq_true (by kernel_rfl)) (by unfold Func.isWrapper; first | (rw [if_pos (by decide +kernel)]; kernel_rfl) | (rw [if_neg (by decide +kernel)]; exact ⟨rfl, rfl⟩))
    (fun os started H enc _ => member_walk_lifted os started H enc)
#print axioms spansMember_holds
end Go.Proofs.Ytpchjgeehejkeaa
