/-
  The contract of the document's sweep: the canonical list of the numbers of which two lists say so.
  Conditions: the numbers are of 32 bits; together at most 2^39 spans; the mode is 0, 1 or 2.
-/
import Derived.Test.YtpchjgeehejkeaaRef03B
import Derived.Deep.RegionLaw
import Derived.Laws.BitsAllLaws
namespace Go.Proofs.Ytpchjgeehejkeaa
open Go.RowKit
set_option linter.unusedVariables false
set_option linter.unusedSimpArgs false

/-- What a mode says of a number. -/
def opB (mode : Nat) (x y : Bool) : Bool := if mode = 1 then x || y else if mode = 2 then x && !y else x && y
def opM (mode : Nat) (a b : List Sp) (n : Nat) : Prop := opB mode (decide (memS a n)) (decide (memS b n)) = true
theorem opB_none (mode : Nat) : opB mode false false = false := by unfold opB; split <;> (try split) <;> rfl
theorem opM_congr {mode : Nat} {a b : List Sp} {n m : Nat} (h1 : memS a n ↔ memS a m) (h2 : memS b n ↔ memS b m) : opM mode a b n ↔ opM mode a b m := by
  unfold opM
  rw [decide_eq_decide.2 h1, decide_eq_decide.2 h2]
theorem opM_none {mode : Nat} {a b : List Sp} {n : Nat} (h1 : ¬ memS a n) (h2 : ¬ memS b n) : ¬ opM mode a b n := by
  unfold opM
  rw [decide_eq_false h1, decide_eq_false h2, opB_none]
  simp
theorem edges_le {l : List Sp} {es : List Nat} (h : edgesOf l es) (hu : u32s l) {i : Nat} (hi : i < es.length) : es[i] ≤ 4294967296 := by
  obtain ⟨s, hs, h⟩ := (h.2 es[i]).1 (List.getElem_mem hi)
  have := hu s hs
  omega
theorem edges_nil {l : List Sp} (h : edgesOf l []) : l = [] := by
  cases l with
  | nil => rfl
  | cons s l => exact absurd ((h.2 s.1).2 ⟨s, List.mem_cons_self .., .inl rfl⟩) (by simp)
theorem u32s_append {a b : List Sp} (ha : u32s a) (hb : u32s b) : u32s (a ++ b) := fun s hs => by
  rcases List.mem_append.1 hs with h | h
  · exact ha s h
  · exact hb s h
theorem snoc_cases {α : Type} (r : List α) : r = [] ∨ ∃ r' s, r = r' ++ [s] := by
  rcases List.eq_nil_or_concat r with h | ⟨r', s, h⟩
  · exact .inl h
  · exact .inr ⟨r', s, by rw [h, List.concat_eq_append]⟩
theorem infoSpan : (Try.prog.info? 37).map (fun i => (i.zero, i.size, i.bytes)) = some (some (.agg #[.int .u32 0, .int .u32 0]), spanC.sz, 8) := by kernel_rfl

set_option maxRecDepth 100000 in
set_option maxHeartbeats 16000000 in
theorem qof_any (A1 A2 : Option Addr) (c1 c2 n1 n2 d1 d2 mode : Nat) (a b : List Sp) (w : World) (hn1 : a.length = n1) (hn2 : b.length = n2) (h1 : ShowsG spanC w d1 (.slice A1 n1 c1) a) (h2 : ShowsG spanC w d2 (.slice A2 n2 c2) b) (hu1 : u32s a) (hu2 : u32s b)
    (hb1 : n1 ≤ 274877906944) (hb2 : n2 ≤ 274877906944) (hmode : mode = 0 ∨ mode = 1 ∨ mode = 2) :
    Calls Try.prog 33 #[.slice A1 n1 c1, .slice A2 n2 c2, .int .i64 mode] w fun e w' => ∃ v r, e = .returned v ∧ OwnG spanC 37 w' w.heap.size v r ∧ canon r ∧ (∀ n, memS r n ↔ opM mode a b n) ∧ u32s r ∧ r.length ≤ 2 * (n1 + n2) ∧ Below w.heap.size w w' := by
  go_enter Try.func33, Try.ntmps33
  go_wp2_with (first
    | (at_builtin
       refine wpList_appendG spanC _ rfl (.tmp 15) (.tmp 16) 22 rfl w.heap.size 37 (.agg #[.int .u32 0, .int .u32 0]) 8 Try.underlying22 infoSpan rfl (.slice none 0 0) [] rfl (OwnG.nil_ _ _ _ _) d1 _ a rfl h1 (by simp; omega) (by simp; omega) (Nat.le_refl _) ?_
       intro v1 w1 ho1 hg1
       rw [List.nil_append] at ho1
       have hw1 : Below w.heap.size w w1 := (Below.refl _ _).grown hg1 (Nat.le_refl _) (by simp [Value.ownBlock]))
    | (at_builtin
       refine wpList_appendG spanC _ rfl (.tmp 18) (.tmp 19) 22 rfl w.heap.size 37 (.agg #[.int .u32 0, .int .u32 0]) 8 Try.underlying22 infoSpan rfl v1 a rfl ho1 d2 _ b rfl (h2.below' hw1 (Nat.le_refl _)) (by omega) (by omega) hw1.size ?_
       intro v2 w2 ho2 hg2
       have hw2 : Below w.heap.size w w2 := hw1.grown hg2 hw1.size (fun q hq => (ho1.block q hq).1)))
  obtain ⟨A3, c3, rfl, _, _⟩ := ho2.form
  obtain ⟨g2, _, s2⟩ := ho2.shows
  refine (qedges_any A3 c3 (a ++ b).length g2 (a ++ b) w2 rfl s2 (u32s_append hu1 hu2) (by simp; omega)).mono ?_
  rintro e w3 ⟨v3, es, rfl, ho3, hE, hlE, hb3⟩
  have hw3 : Below w.heap.size w w3 := hw2.trans (hb3.mono hw2.size)
  obtain ⟨A4, c4, rfl, hc4, hm4⟩ := ho3.form
  obtain ⟨g3, hg3, s3⟩ := ho3.shows
  have hEle := fun i (hi : i < es.length) => edges_le hE (u32s_append hu1 hu2) hi
  have hlE2 : es.length ≤ 2 * (n1 + n2) := by rw [List.length_append] at hlE; omega
  obtain ⟨n3, hn3⟩ : ∃ n3, n3 = es.length := ⟨_, rfl⟩
  rw [← hn3] at s3 hlE2 hc4
  rw [← hn3]
  have HN3 := Lib.hid hn3
  have HE := Lib.hid hE
  have HEL := Lib.hid hEle
  clear hn3 hE hEle hlE ho2 s2 ho1
  go_wp2_with fail
  go_loopw [9, 10, 11, 12, 13, 14] (fun out i _ _ _ _ wr => ∃ (k : Nat) (r : List Sp), (k + 1 ≤ n3 ∨ k = 0) ∧ i = .int .i64 k ∧ swept (opM mode a b) es k r ∧ u32s r ∧ r.length ≤ k ∧ OwnG spanC 37 wr w3.heap.size out r ∧ Below w3.heap.size w3 wr) (fun _ i _ _ _ _ _ => n3 - (intOf i).toNat)
  case atStart =>
    refine ⟨0, [], .inr rfl, rfl, swept_zero fun n hn => ?_, fun s hs => absurd hs (by simp), by simp, OwnG.nil_ _ _ _ _, Below.refl _ _⟩
    exact opM_none (seg_low HE.out (fun s hs => List.mem_append_left _ hs) hn) (seg_low HE.out (fun s hs => List.mem_append_right _ hs) hn)
  case round =>
    obtain ⟨k, r, hk, rfl, hsw, hur, hlr, ho, hbw⟩ := hrel
    by_cases hlt : k + 1 < n3
    · have hkn : k < es.length := by rw [← HN3.out]; omega
      have hkn1 : k + 1 < es.length := by rw [← HN3.out]; omega
      obtain ⟨o, rfl, _, hcl⟩ := (s3.below' hbw (Nat.le_refl _)).at_ (by omega)
      have ce0 := num_cell' hcl hkn
      have ce1 := num_cell' hcl hkn1
      clear hcl
      have hc : ∀ n, es[k] ≤ n → n < es[k + 1] → (opM mode a b n ↔ opM mode a b es[k]) := fun n g1 g2 =>
        opM_congr (seg_const HE.out (fun s hs => List.mem_append_left _ hs) hkn1 g1 g2) (seg_const HE.out (fun s hs => List.mem_append_right _ hs) hkn1 g1 g2)
      have hr := HE.out.1
      have hcan := hsw.1
      have hall := (hsw.2 hkn).1
      have hlt01 : es[k] < es[k + 1] := hr k (k + 1) hkn hkn1 (by omega)
      have hle1 := HEL.out (k + 1) hkn1
      have hno := fun h => swept_no hsw hr hkn1 hc h
      have hnew := fun h h' => swept_new hsw hr hkn1 hc h h'
      have hmore := fun (r' : List Sp) (s : Sp) (hrs : r = r' ++ [s]) h h' => swept_more (out := r') (s := s) (by rw [← hrs]; exact hsw) hr hkn1 hc h h'
      have hop : opM mode a b es[k] ↔ opB mode (decide (memS a es[k])) (decide (memS b es[k])) = true := Iff.rfl
      have hq1 := Lib.hid (fun q => qin_any A1 c1 n1 d1 es[k] a (wr.drewN q) hn1 ((h1.below' (hw3.trans (hbw.mono hw3.size)) (Nat.le_refl _)).drewN q) hu1 (by omega))
      have hq2 := Lib.hid (fun q => qin_any A2 c2 n2 d2 es[k] b (wr.drewN q) hn2 ((h2.below' (hw3.trans (hbw.mono hw3.size)) (Nat.le_refl _)).drewN q) hu2 (by omega))
      generalize decide (memS a es[k]) = x at *
      generalize decide (memS b es[k]) = y at *
      generalize es[k] = e0 at *
      generalize es[k + 1] = e1 at *
      have HNO := Lib.hid hno
      have HNEW := Lib.hid hnew
      have HMORE := Lib.hid hmore
      have HLT := Lib.hid hlt01
      have HLE := Lib.hid hle1
      clear hno hnew hmore hlt01 hle1 hc hr
      have hkI : (k : Int) + 1 < (n3 : Int) := by omega
      have hkI0 : (k : Int) < (n3 : Int) := by omega
      have hk0 : (0 : Int) ≤ (k : Int) + 1 := by omega
      have hwk : IntKind.i64.wrap ((k : Int) + 1) = (k : Int) + 1 := i64_id _ (by omega) (by omega)
      go_wp2_with fail
      go_quiet (first
        | (go_at_call_of 30 A1; exact Calls.quiet_of_same ((hq1.out _).mono fun _ _ ⟨a, b⟩ => ⟨a, b.symm⟩))
        | (go_at_call_of 30 A2; exact Calls.quiet_of_same ((hq2.out _).mono fun _ _ ⟨a, b⟩ => ⟨a, b.symm⟩)))
      clear hq1 hq2
      by_cases hyes : opB mode x y = true
      · have hyes2 := hop.2 hyes
        have HNEW2 := Lib.hid (HNEW.out hyes2)
        have HMORE2 := Lib.hid (fun r' s hrs => HMORE.out r' s hrs hyes2)
        clear hop hyes2 HNO HNEW HMORE
        obtain ⟨m1, m2, hm1, hm2, hmm⟩ : ∃ m1 m2 : Bool, ((mode : Int) == 1) = m1 ∧ ((mode : Int) == 2) = m2 ∧ ((m1 = false ∧ m2 = false ∧ (x && y) = true) ∨ (m1 = true ∧ m2 = false ∧ (x || y) = true) ∨ (m1 = false ∧ m2 = true ∧ (x && !y) = true)) := by
          rcases hmode with hm | hm | hm
          · exact ⟨_, _, rfl, rfl, .inl ⟨by simp [hm], by simp [hm], by simpa [opB, hm] using hyes⟩⟩
          · exact ⟨_, _, rfl, rfl, .inr (.inl ⟨by simp [hm], by simp [hm], by simpa [opB, hm] using hyes⟩)⟩
          · exact ⟨_, _, rfl, rfl, .inr (.inr ⟨by simp [hm], by simp [hm], by simpa [opB, hm] using hyes⟩)⟩
        clear hmode hyes
        cases m1 <;> cases m2 <;> cases x <;> cases y <;> simp at hmm
        all_goals
          go_upto_region 16 with fail
        all_goals
          have hoq : OwnG spanC 37 (wr.drewN nq) w3.heap.size u9 r := ho
          have hbq : Below w3.heap.size w3 (wr.drewN nq) := below_drewN hbw nq
          have ceq0 : (wr.drewN nq).cell? ⟨g3, o + k, none⟩ = some (.int .u64 (e0 : Nat)) := ce0
          have ceq1 : (wr.drewN nq).cell? ⟨g3, o + (k + 1), none⟩ = some (.int .u64 (e1 : Nat)) := ce1
          clear ho hbw ce0 ce1 hsw
          generalize wr.drewN nq = wq at *
          have hle1 := HLE.out
          have hlt01 := HLT.out
          have z1 : ((e1 : Int) - 1) % 18446744073709551616 = (e1 : Int) - 1 := by omega
          have z2 : ((e1 : Int) - 1) % 4294967296 = (e1 : Int) - 1 := by omega
          have z3 : (e0 : Int) % 4294967296 = (e0 : Int) := by omega
          have hcast : ((e1 - 1 : Nat) : Int) = (e1 : Int) - 1 := by omega
          have y1 : IntKind.u64.wrap ((e1 : Int) - 1) = (e1 : Int) - 1 := by rw [IntKind.wrap_u64]; omega
          have y2 : IntKind.u32.wrap ((e1 : Int) - 1) = (e1 : Int) - 1 := by rw [IntKind.wrap_u32']; omega
          have y3 : IntKind.u32.wrap (e0 : Int) = (e0 : Int) := by rw [IntKind.wrap_u32']; omega
          have hur2 : u32s (r ++ [(e0, e1 - 1)]) := u32s_append hur (fun t ht => by
            obtain rfl := List.mem_singleton.1 ht
            exact ⟨by show e0 < _; omega, by show e1 - 1 < _; omega⟩)
          have HC := Lib.hid hcast
          clear hle1 hlt01 hcast
          obtain ⟨A9, c9, rfl, hc9, hm9⟩ := hoq.form
          rcases snoc_cases r with rfl | ⟨r', s, rfl⟩
          · have HSW := Lib.hid (HNEW2.out (by simp))
            go_wp2_with fail
            go_quiet (fail)
            go_wp2_with fail
            go_region_law (refine step_appendG spanC _ rfl (.tmp 91) (.tmp 105) 22 rfl w3.heap.size 37 (.agg #[.int .u32 0, .int .u32 0]) 8 Try.underlying22 infoSpan rfl _ _ rfl (hoq.alloc_ _) wq.heap.size _ [(e0, e1 - 1)] rfl (ShowsG.lit (C := spanC) [(e0, e1 - 1)] (by simp [Code.all, pairC, HC.out]) (by simp [maxLen])) (by first | (simp; done) | (simp; omega)) (by first | (simp; done) | (simp; omega)) (by have := hbq.size; simp; omega) ?_; intro v6 w6 ho6 hg6)
            all_goals
              have hb6 : Below w3.heap.size w3 w6 := ((below_drewN hbq _).alloc hbq.size _).grown hg6 (by have := hbq.size; simp; omega) (fun q hq => (hoq.block q hq).1)
              go_wp2_with fail
              go_roundw
              case rel => exact ⟨k + 1, _, .inl (by omega), by go_num, HSW.out, hur2, by first | (simp; done) | (simp; omega), ho6, hb6⟩
              case measure => simp [intOf]; omega
          · have hlen9 : (r' ++ [s]).length = r'.length + 1 := by simp
            rw [hlen9] at hoq hlr hc9
            rw [hlen9]
            obtain ⟨b0, rfl, hbb, hbl, hfr, hcl⟩ := hoq.at_ (by omega)
            have cs2 : wq.cell? ⟨b0, r'.length * 2 + 1, none⟩ = some (.int .u32 (s.2 : Nat)) := by
              have := hcl r'.length (by simp) 1 (by decide)
              simpa [pairC] using this
            have hf := hfr (r'.length * 2 + 1)
            have hs32 := (hur s (by simp)).2
            have hrl : (r'.length : Int) < (r'.length : Int) + 1 := by omega
            have y4 : IntKind.u64.wrap ((s.2 : Nat) : Int) = ((s.2 : Nat) : Int) := by rw [IntKind.wrap_u64]; omega
            have y5 : IntKind.u64.wrap (((s.2 : Nat) : Int) + 1) = ((s.2 : Nat) : Int) + 1 := by rw [IntKind.wrap_u64]; omega
            by_cases hadj : s.2 + 1 = e0
            · have hd : (((s.2 : Nat) : Int) + 1 == (e0 : Int)) = true := by simp; omega
              have HSW := Lib.hid (HMORE2.out r' s rfl hadj)
              have hset := fun (u : Value) (hu : u = .int .u32 ((e1 - 1 : Nat) : Int)) => hoq.set_ (y := (s.1, e1 - 1)) r'.length 1 (by omega) (by decide) u (by subst hu; simp [pairC])
              have HS := Lib.hid hset
              clear hset hcl hfr hs32
              go_wp2_with fail
              go_quiet (fail)
              go_wp2_with fail
              go_roundw
              case rel =>
                refine ⟨k + 1, r' ++ [(s.1, e1 - 1)], .inl (by omega), by go_num, HSW.out, ?_, by simp; omega, ?_, below_set (below_drewN hbq _) hbb _⟩
                · intro t ht
                  rcases List.mem_append.1 ht with ht | ht
                  · exact hur t (List.mem_append_left _ ht)
                  · obtain rfl := List.mem_singleton.1 ht
                    exact ⟨(hur s (by simp)).1, (hur2 (e0, e1 - 1) (by simp)).2⟩
                · have := HS.out (.int .u32 ((e1 : Int) - 1)) (by rw [HC.out])
                  have e9 : (r' ++ [s]).set r'.length (s.1, e1 - 1) = r' ++ [(s.1, e1 - 1)] := by simp
                  rw [e9] at this
                  exact this
              case measure => simp [intOf]; omega
            · have hd : (((s.2 : Nat) : Int) + 1 == (e0 : Int)) = false := by simp; omega
              have HSW := Lib.hid (HNEW2.out (fun t ht => by
                rcases List.mem_append.1 ht with ht | ht
                · have h1 := (canonFrom_snoc.1 hcan).2.2.2 t ht
                  have h2 := hall s (by simp)
                  have h3 := (canonFrom_snoc.1 hcan).2.2.1
                  omega
                · obtain rfl := List.mem_singleton.1 ht
                  exact hadj))
              clear hcl hfr hs32
              go_wp2_with fail
              go_quiet (fail)
              go_wp2_with fail
              go_region_law (refine step_appendG spanC _ rfl (.tmp 91) (.tmp 105) 22 rfl w3.heap.size 37 (.agg #[.int .u32 0, .int .u32 0]) 8 Try.underlying22 infoSpan rfl _ _ rfl (hoq.alloc_ _) wq.heap.size _ [(e0, e1 - 1)] rfl (ShowsG.lit (C := spanC) [(e0, e1 - 1)] (by simp [Code.all, pairC, HC.out]) (by simp [maxLen])) (by first | (simp; done) | (simp; omega)) (by first | (simp; done) | (simp; omega)) (by have := hbq.size; simp; omega) ?_; intro v6 w6 ho6 hg6)
              all_goals
                have hb6 : Below w3.heap.size w3 w6 := ((below_drewN hbq _).alloc hbq.size _).grown hg6 (by have := hbq.size; simp; omega) (fun q hq => (hoq.block q hq).1)
                go_wp2_with fail
                go_roundw
                case rel => exact ⟨k + 1, _, .inl (by omega), by go_num, HSW.out, hur2, by first | (simp; done) | (simp; omega), ho6, hb6⟩
                case measure => simp [intOf]; omega

      · have HNO2 := Lib.hid (HNO.out (fun h => hyes (hop.1 h)))
        clear hop HNO HNEW HMORE
        obtain ⟨m1, m2, hm1, hm2, hmm⟩ : ∃ m1 m2 : Bool, ((mode : Int) == 1) = m1 ∧ ((mode : Int) == 2) = m2 ∧ ((m1 = false ∧ m2 = false ∧ (x && y) = false) ∨ (m1 = true ∧ m2 = false ∧ (x || y) = false) ∨ (m1 = false ∧ m2 = true ∧ (x && !y) = false)) := by
          rcases hmode with hm | hm | hm
          · exact ⟨_, _, rfl, rfl, .inl ⟨by simp [hm], by simp [hm], by simpa [opB, hm] using hyes⟩⟩
          · exact ⟨_, _, rfl, rfl, .inr (.inl ⟨by simp [hm], by simp [hm], by simpa [opB, hm] using hyes⟩)⟩
          · exact ⟨_, _, rfl, rfl, .inr (.inr ⟨by simp [hm], by simp [hm], by simpa [opB, hm] using hyes⟩)⟩
        clear hmode hyes
        cases m1 <;> cases m2 <;> cases x <;> cases y <;> simp at hmm
        all_goals
          go_wp2_with fail
          go_roundw
          case rel => exact ⟨k + 1, r, .inl (by omega), by go_num, HNO2.out, hur, by omega, ho, below_drewN hbw _⟩
          case measure => simp [intOf]; omega
    · have hfin : canon r ∧ ∀ n, memS r n ↔ opM mode a b n := by
        by_cases hz : n3 = 0
        · have hes : es = [] := List.eq_nil_of_length_eq_zero (by rw [← HN3.out]; exact hz)
          have hE2 := HE.out
          rw [hes] at hE2
          have hab := edges_nil hE2
          have ha : a = [] := (List.append_eq_nil_iff.1 hab).1
          have hb : b = [] := (List.append_eq_nil_iff.1 hab).2
          have hr0 : r = [] := List.eq_nil_of_length_eq_zero (by omega)
          refine ⟨hsw.1, fun n => ?_⟩
          rw [hr0, ha, hb]
          exact ⟨fun h => absurd h (memS_nil n), fun h => absurd h (opM_none (memS_nil n) (memS_nil n))⟩
        · have hke : k + 1 = es.length := by rw [← HN3.out]; omega
          exact swept_end hsw hke fun n hn => opM_none (seg_high HE.out (fun s hs => List.mem_append_left _ hs) hn) (seg_high HE.out (fun s hs => List.mem_append_right _ hs) hn)
      have hkI : ¬ (k : Int) + 1 < (n3 : Int) := by omega
      have hrl2 : r.length ≤ 2 * (n1 + n2) := by omega
      have hbw' : Below w.heap.size w wr := hw3.trans (hbw.mono hw3.size)
      have HF := Lib.hid hfin
      clear hfin hsw
      go_wp2_with fail
      go_ret
      exact ⟨_, rfl, r, ho.mono hw3.size, HF.out.1, HF.out.2, hur, hrl2, hbw'⟩

end Go.Proofs.Ytpchjgeehejkeaa
