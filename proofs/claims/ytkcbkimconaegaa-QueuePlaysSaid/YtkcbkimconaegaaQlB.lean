/-
  The law's does: a call on both queues.
  Conditions: none but sizes.
-/
import Derived.Test.YtkcbkimconaegaaQlA
import Derived.Deep.CutRange
import Derived.Deep.CutBlock
import Derived.Deep.DeepCutAuto
namespace Go.Proofs.Ytkcbkimconaegaa
open Go.RowKit
set_option linter.unusedVariables false
set_option linter.unusedSimpArgs false
set_option maxRecDepth 100000

/-- Both queues, and the blocks of X as they were in W. -/
structure DoesAt (w0 : World) (pb qb : Nat) (p q : QP) (X : Nat → Prop) (W w : World) : Prop where
  d : Duo w0 pb qb p q X w
  k : KeptX X W w
section
variable {w0 W w w' : World} {pb qb : Nat} {p p' q q' : QP} {X : Nat → Prop} {r : Ending} {f : FuncId} {args : Array Value}
theorem DoesAt.step (h : DoesAt w0 pb qb p q X W w) (hb : Below w.heap.size w w') : DoesAt w0 pb qb p q X W w' := ⟨(h.d.step hb).1, h.k.trans (h.d.step hb).2⟩
theorem DoesAt.drw (h : DoesAt w0 pb qb p q X W w) : DoesAt w0 pb qb p q X W w.drew := h.step (below_drew1 (Below.refl _ _))
theorem DoesAt.callP (h : DoesAt w0 pb qb p q X W w) (ho : p'.ok) (hc : ∀ F, PW w w0.heap.size pb p F → Calls Try.prog f args w fun e w' => e = r ∧ LeftP w w0.heap.size pb F p' w') : Calls Try.prog f args w fun e w' => e = r ∧ DoesAt w0 pb qb p' q X W w' :=
  (h.d.callP ho hc).mono fun e w' hx => ⟨hx.1, hx.2.1, h.k.trans hx.2.2⟩
theorem DoesAt.callQ (h : DoesAt w0 pb qb p q X W w) (ho : q'.ok) (hc : ∀ G, QW w w0.heap.size qb q G → Calls Try.prog f args w fun e w' => e = r ∧ LeftQ w w0.heap.size qb G q' w') : Calls Try.prog f args w fun e w' => e = r ∧ DoesAt w0 pb qb p q' X W w' :=
  (h.d.callQ ho hc).mono fun e w' hx => ⟨hx.1, hx.2.1, h.k.trans hx.2.2⟩
theorem DoesAt.callR (h : DoesAt w0 pb qb p q X W w) (hc : ∀ F G, PW w w0.heap.size pb p F → QW w w0.heap.size qb q G → Calls Try.prog f args w fun e w' => e = r ∧ Below w.heap.size w w') : Calls Try.prog f args w fun e w' => e = r ∧ DoesAt w0 pb qb p q X W w' :=
  (h.d.callR hc).mono fun e w' hx => ⟨hx.1, hx.2.1, h.k.trans hx.2.2⟩
end

/-- A call. -/
structure CallQ where
  what : Nat
  a : Nat
  b : Nat
  c : Nat
  n : Int
  more : Bool
structure CallQ.ok (x : CallQ) : Prop where
  what : x.what < 256
  a : x.a < 18446744073709551616
  b : x.b < 18446744073709551616
  c : x.c < 18446744073709551616
  n1 : -9223372036854775808 ≤ x.n
  n2 : x.n < 9223372036854775808
def callV (x : CallQ) : Value := .agg #[.int .u8 x.what, .int .u64 x.a, .int .u64 x.b, .int .u64 x.c, .int .i64 x.n, .bool x.more]
/-- What the switch does. -/
def stepQ (x : CallQ) (q : QP) : QP :=
  if x.what % 10 ≤ 1 then (q.put x.a).2 else if x.what % 10 = 2 then (q.keep x.n).2 else if x.what % 10 = 3 then (q.give x.n).2 else if x.what % 10 = 4 then (q.fill x.a).2 else if x.what % 10 = 5 then (q.next x.b).2
  else if x.what % 10 = 6 then (q.hold x.a x.b).2 else if x.what % 10 = 7 then (q.pass2 x.a x.b x.c).2 else if x.what % 10 = 8 then (q.hands x.a x.b 0).2 else (q.drop x.a x.b).2
def actQ (x : CallQ) (q : QP) : QP := if x.more = true then (stepQ x q).purge.2 else stepQ x q
theorem stepQ_ok {x : CallQ} {q : QP} (h : q.ok) (hx : x.ok) : (stepQ x q).ok := by
  unfold stepQ
  split
  · exact h.put hx.a
  split
  · exact h.keep
  split
  · exact h.give
  split
  · exact h.fill hx.a
  split
  · exact h.next hx.b
  split
  · exact h.hold hx.b
  split
  · exact h.pass2 hx.c
  split
  · exact h.hands (by omega)
  · exact h.drop

theorem own_len (q : QP) (i ow : Nat) : (q.own i ow).l.length = q.l.length := by simp [QP.own]
theorem pass_len (q : QP) (a b c : Nat) : (q.pass a b c).2.l.length ≤ q.l.length := by
  unfold QP.pass
  split
  · exact Nat.le_refl _
  · split
    · exact Nat.le_refl _
    · rw [own_len]; exact Nat.le_refl _
theorem hands_len (q : QP) (a b c : Nat) : (q.hands a b c).2.l.length ≤ q.l.length := by
  unfold QP.hands
  split
  · split <;> exact Nat.le_refl _
  · exact pass_len q a b c
theorem stepQ_len (x : CallQ) (q : QP) : (stepQ x q).l.length ≤ q.l.length + 1 := by
  have hadd : ∀ id, (q.add id).l.length = q.l.length + 1 := fun id => by simp [QP.add]
  unfold stepQ
  split
  · unfold QP.put
    split
    · exact Nat.le_succ _
    split
    · exact Nat.le_succ _
    · rw [hadd]; exact Nat.le_refl _
  split
  · unfold QP.keep
    split
    · exact Nat.le_succ _
    split <;> exact Nat.le_succ _
  split
  · unfold QP.give
    split <;> exact Nat.le_succ _
  split
  · unfold QP.fill
    split
    · exact Nat.le_succ _
    split
    · exact Nat.le_succ _
    · show (q.add x.a).l.length ≤ _
      rw [hadd]; exact Nat.le_refl _
  split
  · unfold QP.next
    split
    · exact Nat.le_succ _
    split
    · exact Nat.le_succ _
    · rw [own_len]; exact Nat.le_succ _
  split
  · unfold QP.hold
    split
    · exact Nat.le_succ _
    · exact Nat.le_succ_of_le (pass_len _ _ _ _)
  split
  · unfold QP.pass2
    split
    · exact Nat.le_succ _
    · exact Nat.le_succ_of_le (hands_len _ _ _ _)
  split
  · exact Nat.le_succ_of_le (hands_len _ _ _ _)
  · unfold QP.drop
    split
    · exact Nat.le_succ _
    split
    · exact Nat.le_succ _
    · show (q.l.take _ ++ q.l.drop _).length ≤ _
      rw [List.length_append, List.length_take, List.length_drop]
      omega
section
variable {w0 w w' : World} {pb qb : Nat} {p q : QP} {X : Nat → Prop}
/-- Purge of the program's: what it tells is kept, too. -/
theorem Duo.purgeP (h : Duo w0 pb qb p q X w) (hn : p.l.length ≤ 1000000) : Calls Try.prog 26 #[.pointer (some ⟨pb, 0, none⟩)] w fun e w' => ∃ v, e = .returned v ∧ RdQ w' w0.heap.size v (ofQ 0 p.l) ∧ Duo w0 pb qb p.purge.2 q (fun k => X k ∨ v.ownBlock = some k) w' ∧ KeptX X w w' := by
  obtain ⟨F, G, h1, h2, h3, h4⟩ := h.two
  refine (ppurge_any h1 h.okp hn h.bel.size).mono ?_
  rintro e w' ⟨v, rfl, ho, F', g1, g2, g3, g4⟩
  refine ⟨v, rfl, ho, ⟨g3.below h.bel (fun k hk => (h1.foot k hk).1) h.bel.size, h.okp.purge, h.okq, F', G, g1, h2.keep fun k hk => g3.block k (h2.foot k hk).2 (fun hF => h3 k hF hk), fun k hk hG => ?_, fun k hk => ?_⟩, fun k hk => g3.block k (h4 k hk).1 (h4 k hk).2.1⟩
  · rcases (g2 k hk).1 with h5 | h5
    · exact h3 k h5 hG
    · have := (h2.foot k hG).2; omega
  · rcases hk with hk | hk
    · refine ⟨Nat.lt_of_lt_of_le (h4 k hk).1 g3.size, fun hF => ?_, (h4 k hk).2.2⟩
      rcases (g2 k hF).1 with h5 | h5
      · exact (h4 k hk).2.1 h5
      · have := (h4 k hk).1; omega
    · have hb := ho.block k hk
      exact ⟨hb.2, fun hF => (g2 k hF).2 hk, fun hG => h3 k (g4 k hk) hG⟩
theorem Duo.purgeQ (h : Duo w0 pb qb p q X w) (hn : q.l.length ≤ 1000000) : Calls Try.prog 37 #[.pointer (some ⟨qb, 0, none⟩)] w fun e w' => ∃ v, e = .returned v ∧ OwnG (natC .u64) 22 w' w.heap.size v (ofQ 0 q.l) ∧ Duo w0 pb qb p q.purge.2 (fun k => X k ∨ v.ownBlock = some k) w' ∧ KeptX X w w' := by
  obtain ⟨F, G, h1, h2, h3, h4⟩ := h.two
  refine (qpurge_any h2 hn).mono ?_
  rintro e w' ⟨v, rfl, ho, _, G', g1, g2, g3⟩
  refine ⟨v, rfl, ho, ⟨g3.below h.bel (fun k hk => (h2.foot k hk).1) h.bel.size, h.okp, h.okq.purge, F, G', h1.keep fun k hk => g3.block k (h1.foot k hk).2 (fun hG => h3 k hk hG), g1, fun k hk hG => ?_, fun k hk => ?_⟩, fun k hk => g3.block k (h4 k hk).1 (h4 k hk).2.2⟩
  · rcases (g2 k hG).1 with h5 | h5
    · exact h3 k hk h5
    · have := (h1.foot k hk).2; omega
  · rcases hk with hk | hk
    · refine ⟨Nat.lt_of_lt_of_le (h4 k hk).1 g3.size, (h4 k hk).2.1, fun hG => ?_⟩
      rcases (g2 k hG).1 with h5 | h5
      · exact (h4 k hk).2.2 h5
      · have := (h4 k hk).1; omega
    · have hb := ho.block k hk
      exact ⟨hb.2, fun hF => by have := (h1.foot k hF).2; omega, fun hG => (g2 k hG).2 hk⟩
end

/-- A call's box. -/
def BoxX (w : World) (xb : Nat) (x : CallQ) : Prop := w.heap[xb]? = some (.cells #[.int .u8 x.what, .int .u64 x.a, .int .u64 x.b, .int .u64 x.c, .int .i64 x.n, .bool x.more] 32 (0, 0))
theorem BoxX.cs {w : World} {xb : Nat} {x : CallQ} (h : BoxX w xb x) : w.cell? ⟨xb, 0, none⟩ = some (.int .u8 x.what) ∧ w.cell? ⟨xb, 1, none⟩ = some (.int .u64 x.a) ∧ w.cell? ⟨xb, 2, none⟩ = some (.int .u64 x.b) ∧ w.cell? ⟨xb, 3, none⟩ = some (.int .u64 x.c) ∧ w.cell? ⟨xb, 4, none⟩ = some (.int .i64 x.n) ∧ w.cell? ⟨xb, 5, none⟩ = some (.bool x.more) :=
  ⟨cell_of_row w xb 0 _ _ (0, 0) h, cell_of_row w xb 1 _ _ (0, 0) h, cell_of_row w xb 2 _ _ (0, 0) h, cell_of_row w xb 3 _ _ (0, 0) h, cell_of_row w xb 4 _ _ (0, 0) h, cell_of_row w xb 5 _ _ (0, 0) h⟩

set_option maxHeartbeats 16000000 in
theorem does_any {w0 w : World} {pb qb : Nat} {q : QP} {X : Nat → Prop} (x : CallQ) (hx : x.ok) (h : Duo w0 pb qb q q X w) (hn : q.l.length ≤ 900000) :
    Calls Try.prog 8 #[.pointer (some ⟨pb, 0, none⟩), .pointer (some ⟨qb, 0, none⟩), callV x] w fun e w' => e = .returned (.bool true) ∧ DoesAt w0 pb qb (actQ x q) (actQ x q) X w w' := by
  have hB := h.bel.size
  have hok := h.okp
  have hd := h.more (Obj.cells #[.int .u8 x.what, .int .u64 x.a, .int .u64 x.b, .int .u64 x.c, .int .i64 x.n, .bool x.more] 32)
  have hbx : BoxX (w.alloc (Obj.cells #[.int .u8 x.what, .int .u64 x.a, .int .u64 x.b, .int .u64 x.c, .int .i64 x.n, .bool x.more] 32)) w.heap.size x := heap_alloc_new w _
  have HX := Lib.hid (show ∀ k, X k → k < w.heap.size from fun k hk => by obtain ⟨F, G, _, _, _, h4⟩ := h.two; exact (h4 k hk).1)
  obtain ⟨W1, hW1⟩ : ∃ W1, W1 = w.alloc (Obj.cells #[.int .u8 x.what, .int .u64 x.a, .int .u64 x.b, .int .u64 x.c, .int .i64 x.n, .bool x.more] 32) := ⟨_, rfl⟩
  have HKW := Lib.hid (show KeptX X w W1 from fun k hk => by rw [hW1]; exact Below.heap_alloc _ _ _ (HX.out k hk))
  rw [← hW1] at hd hbx
  obtain ⟨Y, hY⟩ : ∃ Y, Y = fun k => X k ∨ k = w.heap.size := ⟨_, rfl⟩
  rw [← hY] at hd
  have HYX := Lib.hid (show (∀ k, X k → Y k) ∧ Y w.heap.size from ⟨fun k hk => by rw [hY]; exact .inl hk, by rw [hY]; exact .inr rfl⟩)
  have hA : DoesAt w0 pb qb q q Y W1 W1 := ⟨hd, fun _ _ => rfl⟩
  have HA := Lib.hid hA
  obtain ⟨xb, hxb⟩ : ∃ xb, xb = w.heap.size := ⟨_, rfl⟩
  rw [← hxb] at hbx HYX
  have HC := Lib.hid (fun p q w' (ha : DoesAt w0 pb qb p q Y W1 w') => (show BoxX w' xb x from (ha.k xb HYX.out.2).trans hbx))
  have HFIN := Lib.hid (fun p q w' (ha : DoesAt w0 pb qb p q Y W1 w') => (show DoesAt w0 pb qb p q X w w' from ⟨ha.d.less HYX.out.1, HKW.out.trans fun k hk => ha.k k (HYX.out.1 k hk)⟩))
  obtain ⟨q1, hq1⟩ : ∃ q1, q1 = stepQ x q := ⟨_, rfl⟩
  have HQ1 := Lib.hid hq1
  unfold callV
  have HXB := Lib.hid hxb
  clear hd hA hY hq1 h hbx
  go_enter Try.func8, Try.ntmps8
  go_upto_region 1 with fail
  rw [← hW1]
  rw [← hxb]
  clear hxb hW1
  obtain ⟨c0, c1, c2, c3, c4, c5⟩ := (HC.out _ _ _ HA.out).cs
  go_upto_block 0 with fail
  go_cut [7] from 14 to 157 (fun s wx => s = .bool true ∧ DoesAt w0 pb qb q1 q1 Y W1 wx)
  case first =>
    clear c0 c1 c2 c3 c4 c5
    have hA0 := HA.out
    have hAd := HA.out.drw
    have HOK := Lib.hid hok
    have HX1 := Lib.hid hx
    obtain ⟨a0, b0', c0', n1, n2⟩ : x.a < 18446744073709551616 ∧ x.b < 18446744073709551616 ∧ x.c < 18446744073709551616 ∧ -9223372036854775808 ≤ x.n ∧ x.n < 9223372036854775808 := ⟨hx.a, hx.b, hx.c, hx.n1, hx.n2⟩
    obtain ⟨e0, e1, e2, e3, e4, e5⟩ := (HC.out _ _ _ hA0).cs
    have HSZ := Lib.hid (show q.l.length ≤ 1000000 by omega)
    have HBE := Lib.hid (fun p q w' (ha : DoesAt w0 pb qb p q Y W1 w') => (show w0.heap.size ≤ w'.heap.size from ha.d.bel.size))
    rcases (show x.what % 10 = 0 ∨ x.what % 10 = 1 ∨ x.what % 10 = 2 ∨ x.what % 10 = 3 ∨ x.what % 10 = 4 ∨ x.what % 10 = 5 ∨ x.what % 10 = 6 ∨ x.what % 10 = 7 ∨ x.what % 10 = 8 ∨ x.what % 10 = 9 by omega) with hw | hw | hw | hw | hw | hw | hw | hw | hw | hw
    · have hm : (x.what : Int) % 10 = 0 := by omega
      have hst : q1 = (q.put x.a).2 := by rw [HQ1.out]; unfold stepQ; rw [if_pos (by omega)]
      have hok2 : (q.put x.a).2.ok := hok.put a0
      have HP := Lib.hid (fun w' (ha : DoesAt w0 pb qb q q Y W1 w') => ha.callP (r := .returned (.int .i64 (q.put x.a).1)) hok2 (fun F hF => pputQ_any hF hok HSZ.out (HBE.out _ _ _ ha) x.a a0))
      have HQ := Lib.hid (fun w' (ha : DoesAt w0 pb qb (q.put x.a).2 q Y W1 w') => ha.callQ (r := .returned (.int .i64 (q.put x.a).1)) hok2 (fun G hG => qputQ_any hG hok HSZ.out x.a a0))
      subst hst
      generalize q.put x.a = R at *
      clear hok2 hok hx
      go_upto_region 5 with fail
      go_region_held3 (fun w' => w'.cell? ⟨xb, 0, none⟩ = some (.int .u8 x.what) ∧ w'.cell? ⟨xb, 1, none⟩ = some (.int .u64 x.a) ∧ w'.cell? ⟨xb, 2, none⟩ = some (.int .u64 x.b) ∧ w'.cell? ⟨xb, 3, none⟩ = some (.int .u64 x.c) ∧ w'.cell? ⟨xb, 4, none⟩ = some (.int .i64 x.n) ∧ w'.cell? ⟨xb, 5, none⟩ = some (.bool x.more)) (first | with_reducible exact (HC.out _ _ _ hA2).cs | with_reducible exact (HC.out _ _ _ hA1).cs | with_reducible exact (HC.out _ _ _ (by assumption)).cs)
        (first
          | (go_at_call 13
             with_reducible refine (HP.out _ (by assumption)).mono ?_
             rintro e8 w8 ⟨rfl, hA1⟩)
          | (go_at_call 29
             with_reducible refine (HQ.out _ hA1).mono ?_
             rintro e9 w9 ⟨rfl, hA2⟩))
      all_goals
        go_wp2_with fail
        go_meet
        case rel => exact ⟨by first | rfl | simp, hA2⟩
    · have hm : (x.what : Int) % 10 = 1 := by omega
      have hst : q1 = (q.put x.a).2 := by rw [HQ1.out]; unfold stepQ; rw [if_pos (by omega)]
      have hok2 : (q.put x.a).2.ok := hok.put a0
      have HP := Lib.hid (fun w' (ha : DoesAt w0 pb qb q q Y W1 w') => ha.callP (r := .returned (.int .i64 (q.put x.a).1)) hok2 (fun F hF => pputQ_any hF hok HSZ.out (HBE.out _ _ _ ha) x.a a0))
      have HQ := Lib.hid (fun w' (ha : DoesAt w0 pb qb (q.put x.a).2 q Y W1 w') => ha.callQ (r := .returned (.int .i64 (q.put x.a).1)) hok2 (fun G hG => qputQ_any hG hok HSZ.out x.a a0))
      subst hst
      generalize q.put x.a = R at *
      clear hok2 hok hx
      go_upto_region 5 with fail
      go_region_held3 (fun w' => w'.cell? ⟨xb, 0, none⟩ = some (.int .u8 x.what) ∧ w'.cell? ⟨xb, 1, none⟩ = some (.int .u64 x.a) ∧ w'.cell? ⟨xb, 2, none⟩ = some (.int .u64 x.b) ∧ w'.cell? ⟨xb, 3, none⟩ = some (.int .u64 x.c) ∧ w'.cell? ⟨xb, 4, none⟩ = some (.int .i64 x.n) ∧ w'.cell? ⟨xb, 5, none⟩ = some (.bool x.more)) (first | with_reducible exact (HC.out _ _ _ hA2).cs | with_reducible exact (HC.out _ _ _ hA1).cs | with_reducible exact (HC.out _ _ _ (by assumption)).cs)
        (first
          | (go_at_call 13
             with_reducible refine (HP.out _ (by assumption)).mono ?_
             rintro e8 w8 ⟨rfl, hA1⟩)
          | (go_at_call 29
             with_reducible refine (HQ.out _ hA1).mono ?_
             rintro e9 w9 ⟨rfl, hA2⟩))
      all_goals
        go_wp2_with fail
        go_meet
        case rel => exact ⟨by first | rfl | simp, hA2⟩
    · have hm : (x.what : Int) % 10 = 2 := by omega
      have hst : q1 = (q.keep x.n).2 := by rw [HQ1.out]; unfold stepQ; rw [if_neg (by omega), if_pos (by omega)]
      have hok2 : (q.keep x.n).2.ok := hok.keep
      have HP := Lib.hid (fun w' (ha : DoesAt w0 pb qb q q Y W1 w') => ha.callP (r := .returned (.int .i64 (q.keep x.n).1)) hok2 (fun F hF => pkeep_any hF hok HSZ.out (HBE.out _ _ _ ha) x.n n1 n2))
      have HQ := Lib.hid (fun w' (ha : DoesAt w0 pb qb (q.keep x.n).2 q Y W1 w') => ha.callQ (r := .returned (.int .i64 (q.keep x.n).1)) hok2 (fun G hG => qkeep_any hG hok x.n n1 n2))
      subst hst
      generalize q.keep x.n = R at *
      clear hok2 hok hx
      go_upto_region 7 with fail
      go_region_held3 (fun w' => w'.cell? ⟨xb, 0, none⟩ = some (.int .u8 x.what) ∧ w'.cell? ⟨xb, 1, none⟩ = some (.int .u64 x.a) ∧ w'.cell? ⟨xb, 2, none⟩ = some (.int .u64 x.b) ∧ w'.cell? ⟨xb, 3, none⟩ = some (.int .u64 x.c) ∧ w'.cell? ⟨xb, 4, none⟩ = some (.int .i64 x.n) ∧ w'.cell? ⟨xb, 5, none⟩ = some (.bool x.more)) (first | with_reducible exact (HC.out _ _ _ hA2).cs | with_reducible exact (HC.out _ _ _ hA1).cs | with_reducible exact (HC.out _ _ _ (by assumption)).cs)
        (first
          | (go_at_call 20
             with_reducible refine (HP.out _ (by assumption)).mono ?_
             rintro e8 w8 ⟨rfl, hA1⟩)
          | (go_at_call 30
             with_reducible refine (HQ.out _ hA1).mono ?_
             rintro e9 w9 ⟨rfl, hA2⟩))
      all_goals
        go_wp2_with fail
        go_meet
        case rel => exact ⟨by first | rfl | simp, hA2⟩
    · have hm : (x.what : Int) % 10 = 3 := by omega
      have hst : q1 = (q.give x.n).2 := by rw [HQ1.out]; unfold stepQ; rw [if_neg (by omega), if_neg (by omega), if_pos (by omega)]
      have hok2 : (q.give x.n).2.ok := hok.give
      have HP := Lib.hid (fun w' (ha : DoesAt w0 pb qb q q Y W1 w') => ha.callP (r := .returned (.int .i64 (q.give x.n).1)) hok2 (fun F hF => pgive_any hF hok HSZ.out (HBE.out _ _ _ ha) x.n n1 n2))
      have HQ := Lib.hid (fun w' (ha : DoesAt w0 pb qb (q.give x.n).2 q Y W1 w') => ha.callQ (r := .returned (.int .i64 (q.give x.n).1)) hok2 (fun G hG => qgive_any hG hok x.n n1 n2))
      subst hst
      generalize q.give x.n = R at *
      clear hok2 hok hx
      go_upto_region 9 with fail
      go_region_held3 (fun w' => w'.cell? ⟨xb, 0, none⟩ = some (.int .u8 x.what) ∧ w'.cell? ⟨xb, 1, none⟩ = some (.int .u64 x.a) ∧ w'.cell? ⟨xb, 2, none⟩ = some (.int .u64 x.b) ∧ w'.cell? ⟨xb, 3, none⟩ = some (.int .u64 x.c) ∧ w'.cell? ⟨xb, 4, none⟩ = some (.int .i64 x.n) ∧ w'.cell? ⟨xb, 5, none⟩ = some (.bool x.more)) (first | with_reducible exact (HC.out _ _ _ hA2).cs | with_reducible exact (HC.out _ _ _ hA1).cs | with_reducible exact (HC.out _ _ _ (by assumption)).cs)
        (first
          | (go_at_call 21
             with_reducible refine (HP.out _ (by assumption)).mono ?_
             rintro e8 w8 ⟨rfl, hA1⟩)
          | (go_at_call 31
             with_reducible refine (HQ.out _ hA1).mono ?_
             rintro e9 w9 ⟨rfl, hA2⟩))
      all_goals
        go_wp2_with fail
        go_meet
        case rel => exact ⟨by first | rfl | simp, hA2⟩
    · have hm : (x.what : Int) % 10 = 4 := by omega
      have hst : q1 = (q.fill x.a).2 := by rw [HQ1.out]; unfold stepQ; rw [if_neg (by omega), if_neg (by omega), if_neg (by omega), if_pos (by omega)]
      have hok2 : (q.fill x.a).2.ok := hok.fill a0
      have HP := Lib.hid (fun w' (ha : DoesAt w0 pb qb q q Y W1 w') => ha.callP (r := .returned (.int .i64 (q.fill x.a).1)) hok2 (fun F hF => pfill_any hF hok HSZ.out (HBE.out _ _ _ ha) x.a a0))
      have HQ := Lib.hid (fun w' (ha : DoesAt w0 pb qb (q.fill x.a).2 q Y W1 w') => ha.callQ (r := .returned (.int .i64 (q.fill x.a).1)) hok2 (fun G hG => qfill_any hG hok HSZ.out x.a a0))
      subst hst
      generalize q.fill x.a = R at *
      clear hok2 hok hx
      go_upto_region 11 with fail
      go_region_held3 (fun w' => w'.cell? ⟨xb, 0, none⟩ = some (.int .u8 x.what) ∧ w'.cell? ⟨xb, 1, none⟩ = some (.int .u64 x.a) ∧ w'.cell? ⟨xb, 2, none⟩ = some (.int .u64 x.b) ∧ w'.cell? ⟨xb, 3, none⟩ = some (.int .u64 x.c) ∧ w'.cell? ⟨xb, 4, none⟩ = some (.int .i64 x.n) ∧ w'.cell? ⟨xb, 5, none⟩ = some (.bool x.more)) (first | with_reducible exact (HC.out _ _ _ hA2).cs | with_reducible exact (HC.out _ _ _ hA1).cs | with_reducible exact (HC.out _ _ _ (by assumption)).cs)
        (first
          | (go_at_call 22
             with_reducible refine (HP.out _ (by assumption)).mono ?_
             rintro e8 w8 ⟨rfl, hA1⟩)
          | (go_at_call 32
             with_reducible refine (HQ.out _ hA1).mono ?_
             rintro e9 w9 ⟨rfl, hA2⟩))
      all_goals
        go_wp2_with fail
        go_meet
        case rel => exact ⟨by first | rfl | simp, hA2⟩
    · have hm : (x.what : Int) % 10 = 5 := by omega
      have hst : q1 = (q.next x.b).2 := by rw [HQ1.out]; unfold stepQ; rw [if_neg (by omega), if_neg (by omega), if_neg (by omega), if_neg (by omega), if_pos (by omega)]
      have hok2 : (q.next x.b).2.ok := hok.next b0'
      have HP := Lib.hid (fun w' (ha : DoesAt w0 pb qb q q Y W1 w') => ha.callP (r := .returned (.tuple #[.int .u64 (q.next x.b).1.1, .bool (q.next x.b).1.2])) hok2 (fun F hF => pnext_any hF hok HSZ.out (HBE.out _ _ _ ha) x.b b0'))
      have HQ := Lib.hid (fun w' (ha : DoesAt w0 pb qb (q.next x.b).2 q Y W1 w') => ha.callQ (r := .returned (.tuple #[.int .u64 (q.next x.b).1.1, .bool (q.next x.b).1.2])) hok2 (fun G hG => qnext_any hG HSZ.out x.b))
      subst hst
      generalize q.next x.b = R at *
      obtain ⟨⟨Rn, Rb⟩, Rq⟩ := R
      simp only [] at HP HQ
      clear hok2 hok hx hAd
      go_wp2_with fail
      refine (HP.out _ hA0).mono ?_
      rintro e8 w8 ⟨rfl, hA1⟩
      obtain ⟨e0, e1, e2, e3, e4, e5⟩ := (HC.out _ _ _ hA1).cs
      go_wp2_with fail
      refine (HQ.out _ hA1).mono ?_
      rintro e9 w9 ⟨rfl, hA2⟩
      go_wp2_with fail
      go_meet
      case rel => exact ⟨by first | rfl | simp, hA2⟩
    · have hm : (x.what : Int) % 10 = 6 := by omega
      have hst : q1 = (q.hold x.a x.b).2 := by rw [HQ1.out]; unfold stepQ; rw [if_neg (by omega), if_neg (by omega), if_neg (by omega), if_neg (by omega), if_neg (by omega), if_pos (by omega)]
      have hok2 : (q.hold x.a x.b).2.ok := hok.hold b0'
      subst hst
      by_cases hz : x.b = 0
      · have hh : q.hold x.a x.b = (2, q) := if_pos hz
        have HP := Lib.hid (fun w' (ha : DoesAt w0 pb qb q q Y W1 w') => ha.callP (r := .returned (.int .i64 (q.hold x.a x.b).1)) hok2 (fun F hF => phold_any hF hok HSZ.out (HBE.out _ _ _ ha) x.a x.b a0 b0'))
        rw [hh] at HP hok2
        have HH := Lib.hid hh
        have tz : ((x.b : Int) != 0) = false := by simp [hz]
        clear hok2 hok hx hAd hh hz
        go_wp2_with fail
        refine (HP.out _ hA0).mono ?_
        rintro e8 w8 ⟨rfl, hA1⟩
        go_wp2_with fail
        go_meet
        case rel => exact ⟨by first | rfl | simp, by rw [HH.out]; exact hA1⟩
      · have hh : q.hold x.a x.b = q.pass x.a 0 x.b := if_neg hz
        have HQ := Lib.hid (fun w' (ha : DoesAt w0 pb qb q q Y W1 w') => ha.callQ (args := #[.pointer (some ⟨qb, 0, none⟩), .int .u64 x.a, .int .u64 0, .int .u64 x.b]) (r := .returned (.int .i64 (q.hold x.a x.b).1)) (q' := (q.hold x.a x.b).2) hok2 (fun G hG => by rw [hh]; exact qpass_any hG HSZ.out x.a 0 x.b))
        have HP := Lib.hid (fun w' (ha : DoesAt w0 pb qb q (q.hold x.a x.b).2 Y W1 w') => ha.callP (r := .returned (.int .i64 (q.hold x.a x.b).1)) hok2 (fun F hF => phold_any hF hok HSZ.out (HBE.out _ _ _ ha) x.a x.b a0 b0'))
        have tz : ((x.b : Int) != 0) = true := by rw [bne_iff_ne]; omega
        clear hh
        generalize q.hold x.a x.b = R at *
        clear hok2 hok hx hAd
        go_wp2_with fail
        refine (HQ.out _ hA0).mono ?_
        rintro e8 w8 ⟨rfl, hA1⟩
        obtain ⟨e0, e1, e2, e3, e4, e5⟩ := (HC.out _ _ _ hA1).cs
        go_wp2_with fail
        refine (HP.out _ hA1).mono ?_
        rintro e9 w9 ⟨rfl, hA2⟩
        go_wp2_with fail
        go_meet
        case rel => exact ⟨by first | rfl | simp, hA2⟩
    · have hm : (x.what : Int) % 10 = 7 := by omega
      have hst : q1 = (q.pass2 x.a x.b x.c).2 := by rw [HQ1.out]; unfold stepQ; rw [if_neg (by omega), if_neg (by omega), if_neg (by omega), if_neg (by omega), if_neg (by omega), if_neg (by omega), if_pos (by omega)]
      have hok2 : (q.pass2 x.a x.b x.c).2.ok := hok.pass2 c0'
      subst hst
      by_cases hz : x.c = 0
      · have hh : q.pass2 x.a x.b x.c = (2, q) := if_pos hz
        have HP := Lib.hid (fun w' (ha : DoesAt w0 pb qb q q Y W1 w') => ha.callP (r := .returned (.int .i64 (q.pass2 x.a x.b x.c).1)) hok2 (fun F hF => ppass_any hF hok HSZ.out (HBE.out _ _ _ ha) x.a x.b x.c a0 b0' c0'))
        rw [hh] at HP hok2
        have HH := Lib.hid hh
        have tz : ((x.c : Int) != 0) = false := by simp [hz]
        clear hok2 hok hx hAd hh hz
        go_wp2_with fail
        refine (HP.out _ hA0).mono ?_
        rintro e8 w8 ⟨rfl, hA1⟩
        go_wp2_with fail
        go_meet
        case rel => exact ⟨by first | rfl | simp, by rw [HH.out]; exact hA1⟩
      · have hh : q.pass2 x.a x.b x.c = q.hands x.a x.b x.c := if_neg hz
        have HQ := Lib.hid (fun w' (ha : DoesAt w0 pb qb q q Y W1 w') => ha.callQ (r := .returned (.int .i64 (q.pass2 x.a x.b x.c).1)) (q' := (q.pass2 x.a x.b x.c).2) hok2 (fun G hG => by rw [hh]; exact hands_any hG HSZ.out x.a x.b x.c))
        have HP := Lib.hid (fun w' (ha : DoesAt w0 pb qb q (q.pass2 x.a x.b x.c).2 Y W1 w') => ha.callP (r := .returned (.int .i64 (q.pass2 x.a x.b x.c).1)) hok2 (fun F hF => ppass_any hF hok HSZ.out (HBE.out _ _ _ ha) x.a x.b x.c a0 b0' c0'))
        have tz : ((x.c : Int) != 0) = true := by rw [bne_iff_ne]; omega
        clear hh
        generalize q.pass2 x.a x.b x.c = R at *
        clear hok2 hok hx hAd
        go_wp2_with fail
        refine (HQ.out _ hA0).mono ?_
        rintro e8 w8 ⟨rfl, hA1⟩
        obtain ⟨e0, e1, e2, e3, e4, e5⟩ := (HC.out _ _ _ hA1).cs
        go_wp2_with fail
        refine (HP.out _ hA1).mono ?_
        rintro e9 w9 ⟨rfl, hA2⟩
        go_wp2_with fail
        go_meet
        case rel => exact ⟨by first | rfl | simp, hA2⟩
    · have hm : (x.what : Int) % 10 = 8 := by omega
      have hst : q1 = (q.hands x.a x.b 0).2 := by rw [HQ1.out]; unfold stepQ; rw [if_neg (by omega), if_neg (by omega), if_neg (by omega), if_neg (by omega), if_neg (by omega), if_neg (by omega), if_neg (by omega), if_pos (by omega)]
      have hok2 : (q.hands x.a x.b 0).2.ok := hok.hands (by omega)
      have HP := Lib.hid (fun w' (ha : DoesAt w0 pb qb q q Y W1 w') => ha.callP (r := .returned (.int .i64 (q.hands x.a x.b 0).1)) hok2 (fun F hF => pfree_any hF hok HSZ.out (HBE.out _ _ _ ha) x.a x.b a0 b0'))
      have HQ := Lib.hid (fun w' (ha : DoesAt w0 pb qb (q.hands x.a x.b 0).2 q Y W1 w') => ha.callQ (args := #[.pointer (some ⟨qb, 0, none⟩), .int .u64 x.a, .int .u64 x.b, .int .u64 0]) (r := .returned (.int .i64 (q.hands x.a x.b 0).1)) hok2 (fun G hG => hands_any hG HSZ.out x.a x.b 0))
      subst hst
      generalize q.hands x.a x.b 0 = R at *
      clear hok2 hok hx
      go_upto_region 27 with fail
      go_region_held3 (fun w' => w'.cell? ⟨xb, 0, none⟩ = some (.int .u8 x.what) ∧ w'.cell? ⟨xb, 1, none⟩ = some (.int .u64 x.a) ∧ w'.cell? ⟨xb, 2, none⟩ = some (.int .u64 x.b) ∧ w'.cell? ⟨xb, 3, none⟩ = some (.int .u64 x.c) ∧ w'.cell? ⟨xb, 4, none⟩ = some (.int .i64 x.n) ∧ w'.cell? ⟨xb, 5, none⟩ = some (.bool x.more)) (first | with_reducible exact (HC.out _ _ _ hA2).cs | with_reducible exact (HC.out _ _ _ hA1).cs | with_reducible exact (HC.out _ _ _ (by assumption)).cs)
        (first
          | (go_at_call 16
             with_reducible refine (HP.out _ (by assumption)).mono ?_
             rintro e8 w8 ⟨rfl, hA1⟩)
          | (go_at_call 35
             with_reducible refine (HQ.out _ hA1).mono ?_
             rintro e9 w9 ⟨rfl, hA2⟩))
      all_goals
        go_wp2_with fail
        go_meet
        case rel => exact ⟨by first | rfl | simp, hA2⟩
    · have hm : (x.what : Int) % 10 = 9 := by omega
      have hst : q1 = (q.drop x.a x.b).2 := by rw [HQ1.out]; unfold stepQ; rw [if_neg (by omega), if_neg (by omega), if_neg (by omega), if_neg (by omega), if_neg (by omega), if_neg (by omega), if_neg (by omega), if_neg (by omega)]
      have hok2 : (q.drop x.a x.b).2.ok := hok.drop
      have HP := Lib.hid (fun w' (ha : DoesAt w0 pb qb q q Y W1 w') => ha.callP (r := .returned (.int .i64 (q.drop x.a x.b).1)) hok2 (fun F hF => pdropP_any hF hok HSZ.out (HBE.out _ _ _ ha) x.a x.b a0 b0'))
      have HQ := Lib.hid (fun w' (ha : DoesAt w0 pb qb (q.drop x.a x.b).2 q Y W1 w') => ha.callQ (r := .returned (.int .i64 (q.drop x.a x.b).1)) hok2 (fun G hG => qdropQ_any hG hok HSZ.out x.a x.b))
      subst hst
      generalize q.drop x.a x.b = R at *
      clear hok2 hok hx
      go_upto_region 29 with fail
      go_region_held3 (fun w' => w'.cell? ⟨xb, 0, none⟩ = some (.int .u8 x.what) ∧ w'.cell? ⟨xb, 1, none⟩ = some (.int .u64 x.a) ∧ w'.cell? ⟨xb, 2, none⟩ = some (.int .u64 x.b) ∧ w'.cell? ⟨xb, 3, none⟩ = some (.int .u64 x.c) ∧ w'.cell? ⟨xb, 4, none⟩ = some (.int .i64 x.n) ∧ w'.cell? ⟨xb, 5, none⟩ = some (.bool x.more)) (first | with_reducible exact (HC.out _ _ _ hA2).cs | with_reducible exact (HC.out _ _ _ hA1).cs | with_reducible exact (HC.out _ _ _ (by assumption)).cs)
        (first
          | (go_at_call 25
             with_reducible refine (HP.out _ (by assumption)).mono ?_
             rintro e8 w8 ⟨rfl, hA1⟩)
          | (go_at_call 36
             with_reducible refine (HQ.out _ hA1).mono ?_
             rintro e9 w9 ⟨rfl, hA2⟩))
      all_goals
        go_wp2_with fail
        go_meet
        case rel => exact ⟨by first | rfl | simp, hA2⟩
  case rest =>
  rename World => W2
  obtain ⟨rfl, hA2⟩ := hcut
  obtain ⟨c0, c1, c2, c3, c4, c5⟩ := (HC.out _ _ _ hA2).cs
  have hq1n : q1.l.length ≤ 1000000 := by rw [HQ1.out]; have := stepQ_len x q; omega
  cases hm : x.more with
  | false =>
    rw [hm] at c5
    have hact : actQ x q = q1 := by unfold actQ; rw [hm, if_neg (by decide), HQ1.out]
    have HACT := Lib.hid hact
    clear hact hm
    go_wp2_with fail
    go_ret
    exact ⟨rfl, by rw [HACT.out]; exact HFIN.out _ _ _ hA2⟩
  | true =>
    rw [hm] at c5
    have hact : actQ x q = q1.purge.2 := by unfold actQ; rw [hm, if_pos rfl, HQ1.out]
    have HACT := Lib.hid hact
    have HPP := Lib.hid (hA2.d.purgeP hq1n)
    clear hact hm
    go_wp2_with fail
    refine HPP.out.mono ?_
    rintro e w3 ⟨v1, rfl, ho1, hd3, hk3⟩
    have HPQ := Lib.hid (hd3.purgeQ hq1n)
    have hz3 := hd3.bel.size
    go_wp2_with fail
    refine HPQ.out.mono ?_
    rintro e w4 ⟨v2, rfl, ho2, hd4, hk4⟩
    obtain ⟨A1, n1, rfl, _, _⟩ := ho1.form
    obtain ⟨A2, n2, rfl, _, _⟩ := ho2.form
    have ho1' := ho1.keep (w' := w4) fun g hg => hk4 g (.inr hg)
    obtain ⟨d1, _, hs1⟩ := ho1'.shows
    obtain ⟨d2, _, hs2⟩ := ho2.shows
    have hol := ofQ_len 0 q1.l
    have hsame := qsameN_any A1 A2 n1 n2 d1 d2 _ _ w4 hs1 hs2 (by omega) (by omega)
    rw [decide_eq_true rfl] at hsame
    have HSM := Lib.hid hsame
    have HEND := Lib.hid (fun w' (hb : Below w4.heap.size w4 w') => (show DoesAt w0 pb qb q1.purge.2 q1.purge.2 X w w' from
      HFIN.out _ _ _ ⟨(hd4.step hb).1.less fun k hk => .inl (.inl hk), ((hA2.k.trans hk3).trans fun k hk => hk4 k (.inl hk)).trans fun k hk => (hd4.step hb).2 k (.inl (.inl hk))⟩))
    clear hs1 hs2 ho1' ho1 ho2 hsame hd3 hd4 hk3 hk4 hol HPP HPQ hA2
    go_wp2_with fail
    refine HSM.out.mono ?_
    rintro e w5 ⟨rfl, hb5⟩
    go_wp2_with fail
    go_ret
    exact ⟨rfl, by rw [HACT.out]; exact HEND.out _ hb5⟩

end Go.Proofs.Ytkcbkimconaegaa
