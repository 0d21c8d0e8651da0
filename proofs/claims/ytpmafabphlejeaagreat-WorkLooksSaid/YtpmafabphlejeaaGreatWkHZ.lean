/-
  Texts, together: WkH, WkI, WkJ.
  Conditions: none but sizes.
-/
import Derived.BigQuiet
import Derived.Test.YtpmafabphlejeaaGreatWkEZ
import Derived.Test.YtpmafabphlejeaaGreatEnSZ
/-
  The contracts of slices.Contains at names of messages, and of what AddPut and AddTake append.
  Conditions: none but sizes.
-/
namespace Go.Proofs.YtpmafabphlejeaaGreat
open Go.RowKit
set_option linter.unusedVariables false
set_option linter.unusedSimpArgs false
set_option maxRecDepth 100000

set_option maxHeartbeats 2000000 in
theorem indexR_any (A : Option Addr) (c : Nat) (rs : List RefE) (r : RefE) (w : World) (h : RowR w A c rs) (hn : rs.length ≤ 1000000) :
    Calls Tryz.prog 64 #[.slice A rs.length c, refV r] w fun e w' => ∃ k : Int, e = .returned (.int .i64 k) ∧ (0 ≤ k ↔ r ∈ rs) ∧ Below w.heap.size w w' := by
  unfold refV
  have HS := Lib.hid h
  have hX0 := BoxR2.new w r
  have hB0 := below_boxV w (Obj.cells #[.string r.q, .int .u64 r.id] 37)
  have HX := Lib.hid (fun w' (hb : Below (w.heap.size + 1) (w.alloc (Obj.cells #[.string r.q, .int .u64 r.id] 37)) w') => (hX0.kept hb (by simp)))
  have HB0 := Lib.hid hB0
  have HBx := Lib.hid (Below.refl (w.heap.size + 1) (w.alloc (Obj.cells #[.string r.q, .int .u64 r.id] 37)))
  clear h hX0 hB0
  go_enter Tryz.func64, Tryz.ntmps64
  go_wp2_with fail
  go_loopw [8] (fun iv wr => ∃ (j : Nat), j ≤ rs.length ∧ iv = .int .i64 j ∧ Hid (∀ q (hq : q < rs.length), q < j → rs[q] ≠ r) ∧ Hid (Below w.heap.size w wr) ∧ Hid (Below (w.heap.size + 1) (w.alloc (Obj.cells #[.string r.q, .int .u64 r.id] 37)) wr)) (fun i _ => rs.length - (intOf i).toNat)
  case atStart => exact ⟨0, by omega, rfl, Lib.hid (fun q _ h => absurd h (by omega)), HB0, HBx⟩
  case round =>
    rename World => wr
    obtain ⟨j, hj, rfl, hlo, hb, hbx⟩ := hrel
    by_cases hlt : j < rs.length
    · obtain ⟨d, o, rfl, hd, c0, c1⟩ := (HS.out.kept hb.out (Nat.le_refl _)).at_ j hlt
      have hX := HX.out wr hbx.out
      have k0 := hX.c0
      have k1 := hX.c1
      have hj1 : (j : Int) < (rs.length : Int) := by omega
      have hj0 : (0 : Int) ≤ (j : Int) := by omega
      have b3 : IntKind.i64.wrap ((j : Int) + 1) = (j : Int) + 1 := i64_id _ (by omega) (by omega)
      have hEq := fun w => run_eq_ref r.q rs[j].q r.id rs[j].id w
      have hGd := refGuard
      have hdc : decide (r.q = rs[j].q ∧ r.id = rs[j].id) = decide (rs[j] = r) := by
        rw [Bool.eq_iff_iff]
        simp only [decide_eq_true_eq]
        exact ⟨fun h => refE_ext h.1.symm h.2.symm, fun h => by rw [h]; exact ⟨rfl, rfl⟩⟩
      rw [hdc] at hEq
      by_cases e : rs[j] = r
      · have HIN := Lib.hid (show r ∈ rs by rw [← e]; exact List.getElem_mem hlt)
        rw [decide_eq_true e] at hEq
        clear hdc e hX hd
        go_wp2_with fail
        go_quiet (fail)
        go_wp2_with fail
        go_ret
        exact ⟨_, rfl, ⟨fun _ => HIN.out, fun _ => by omega⟩, below_drewN hb.out _⟩
      · have HLO : Hid (∀ q (hq : q < rs.length), q < j + 1 → rs[q] ≠ r) := Lib.hid (fun q hq hqj => by
          by_cases hqj2 : q < j
          · exact hlo.out q hq hqj2
          · obtain rfl : q = j := by omega
            exact e)
        rw [decide_eq_false e] at hEq
        clear hdc e hX hd
        go_wp2_with fail
        go_quiet (fail)
        go_wp2_with fail
        go_roundw
        case rel => exact ⟨j + 1, by omega, by go_num, HLO, Lib.hid (below_drewN hb.out _), Lib.hid (below_drewN hbx.out _)⟩
        case measure => simp [intOf]; omega
    · have hjl : ¬ (j : Int) < (rs.length : Int) := by omega
      have HNO := Lib.hid (show r ∉ rs from fun hm => by
        obtain ⟨q, hq, e⟩ := List.getElem_of_mem hm
        exact hlo.out q hq (by omega) e)
      go_wp2_with fail
      go_ret
      exact ⟨_, rfl, ⟨fun h => absurd h (by omega), fun h => absurd h HNO.out⟩, hb.out⟩

set_option maxHeartbeats 1000000 in
theorem containsR_any (A : Option Addr) (c : Nat) (rs : List RefE) (r : RefE) (w : World) (h : RowR w A c rs) (hn : rs.length ≤ 1000000) :
    Calls Tryz.prog 39 #[.slice A rs.length c, refV r] w fun e w' => e = .returned (.bool (decide (r ∈ rs))) ∧ Below w.heap.size w w' := by
  have HI := Lib.hid (fun w' (hb : Below w.heap.size w w') => indexR_any A c rs r w' (h.kept hb (Nat.le_refl _)) hn)
  unfold refV at *
  have hX0 := BoxR2.new w r
  have k0 := hX0.c0
  have k1 := hX0.c1
  have HB0 := Lib.hid (below_boxV w (Obj.cells #[.string r.q, .int .u64 r.id] 37))
  obtain ⟨R, hR⟩ : ∃ R, R = decide (r ∈ rs) := ⟨_, rfl⟩
  rw [← hR]
  have HR := Lib.hid hR
  clear h hX0 hR
  go_enter Tryz.func39, Tryz.ntmps39
  go_wp2_with fail
  refine (HI.out _ HB0.out).mono ?_
  rintro e w1 ⟨k, rfl, hk, hb1⟩
  have ht : decide ((0 : Int) ≤ k) = R := by rw [HR.out, Bool.eq_iff_iff]; simp only [decide_eq_true_eq]; exact hk
  have HB1 := Lib.hid (HB0.out.trans (hb1.mono HB0.out.size))
  clear hk hb1
  go_wp2_with fail
  go_ret
  exact ⟨by first | rfl | rw [ht], HB1.out⟩

/-- An append onto a row without room, at a step of a region. -/
theorem step_append_cutG {α : Type} (C : Code α) {P : Program} (w : World) {ops : Array Oper} {o : Oper} {a : Act} {K : Act → World → Prop} {Q : Exit → Act → World → Prop} {E : Prop} (hgd : o.guard = none) (s x : Operand) (t : TypeId)
    (ho : o.op = .call { callee := .builtin .append, args := #[s, x], argTypes := #[t, t] })
    (e : TypeId) (z : Value) (bytes : Nat) (ht : P.underlying t = some (.slice e)) (hi : (P.info? e).map (fun i => (i.zero, i.size, i.bytes)) = some (some z, C.sz, bytes)) (hzs : z.cells.size = C.sz)
    (A : Option Addr) (l : List α) (hs : a.eval s = .slice A l.length l.length) (d : Nat) (hown : ShowsG C w d (.slice A l.length l.length) l) (d2 : Nat) (y : Value) (m : List α) (hx : a.eval x = y) (hm : ShowsG C w d2 y m) (hm0 : 0 < m.length)
    (hb : (l.length + m.length) * bytes ≤ 140737488355328) (hb63 : l.length + m.length ≤ 140737488355328)
    (h : ∀ v' w', OwnG C e w' w.heap.size v' (l ++ m) → w.grownBy w' none → K (a.put o.dst v') w') :
    if Region.wanted o (yielded ops a.tmps) = true then Oper.wp P o a w K Q else E := by
  have hw : Region.wanted o (yielded ops a.tmps) = true := by simp [Region.wanted, hgd]
  rw [if_pos hw]
  obtain ⟨i, hi0, hz, hs1, hb1⟩ := info_parts hi
  obtain ⟨v', w', hr, h2, h3⟩ := run_append_cutG (P := P) (C := C) t o.type i z bytes ht hi0 hz hs1 hb1 hzs A l hown y m hm hm0 hb (by simp only [maxLen]; omega)
  unfold Oper.wp execOp
  simp only [ho, resolve, invoke, builtin, Sem.run_bind, Sem.run_pure, Result.andThen_ok, List.map_toArray, List.map_cons, List.map_nil, hs, hx, hr]
  exact h v' w' h2 h3

/-- What AddPut's closure leaves: a box with a longer row. -/
def AddPSaid (wb : Nat) (v2 : Value) (cs : List PutC) (c : PutC) (w : World) (e : Ending) (w' : World) : Prop :=
  ∃ v', e = .returned (.int .i64 0) ∧ OwnG putC 35 w' w.heap.size v' (cs ++ [c]) ∧ BoxK w' wb v' v2 ∧ w.grownBy w' (some wb)
theorem addP1_full (wb pb : Nat) (A : Option Addr) (v2 : Value) (cs : List PutC) (w : World) (hw : BoxK w wb (.slice A cs.length cs.length) v2) (hn : cs.length = 100) :
    Calls Tryz.prog 36 #[.pointer (some ⟨wb, 0, none⟩), .pointer (some ⟨pb, 0, none⟩)] w fun e w' => e = .returned (.int .i64 6) ∧ w = w' := by
  have k0 := hw.c0
  have t1 : ((cs.length : Int) == 100) = true := by simp; omega
  clear hw hn
  go_enter Tryz.func36, Tryz.ntmps36
  go_wp2_with fail
  go_ret
  exact ⟨rfl, rfl⟩
theorem below_room {w w1 w2 : World} {wb : Nat} {v : Value} (h1 : Below w.heap.size w w1) (h2 : w1.grownBy w2 none) : w.grownBy (w2.setCell ⟨wb, 0, none⟩ v) (some wb) :=
  ⟨h2.os.trans h1.os, h2.tape.trans h1.tape, h2.output.trans h1.output, by have := h1.size; have := h2.size; simp; omega, fun k hk hne => (Below.heap_setCell _ _ _ _ (by show k ≠ wb; intro e; exact hne (by rw [e]))).trans ((h2.block k (by have := h1.size; omega) (by simp)).trans (h1.block k hk))⟩
set_option maxHeartbeats 4000000 in
theorem addP1_room (wb pb : Nat) (A : Option Addr) (v2 : Value) (cs : List PutC) (c : PutC) (w : World) (hw : BoxK w wb (.slice A cs.length cs.length) v2) (hp : BoxT w pb c) (h : RowP w A cs.length cs) (hn : cs.length < 100) :
    Calls Tryz.prog 36 #[.pointer (some ⟨wb, 0, none⟩), .pointer (some ⟨pb, 0, none⟩)] w (AddPSaid wb v2 cs c w) := by
  unfold AddPSaid
  have k0 := hw.c0
  have t1 : ((cs.length : Int) == 100) = false := by simp; omega
  obtain ⟨d, hd⟩ := h.row
  obtain ⟨W1, hW1⟩ : ∃ W1, W1 = w.drew.alloc (Obj.cells #[.string c.e.q, .int .u64 c.e.id, .string c.e.p.key, .bool c.e.p.dur, .bool c.e.p.red, .string c.e.p.id, .int .u8 c.x.k, .int .u64 c.x.n, .string c.x.s, .slice c.x.a3 c.x.n3 c.x.c3, .slice c.x.a4 c.x.n4 c.x.c4, .string c.e.body] 35) := ⟨_, rfl⟩
  have hb1 : Below w.heap.size w W1 := by rw [hW1]; exact (below_drew1 (Below.refl w.heap.size w)).alloc (Nat.le_refl _) _
  have hs1 : W1.heap.size = w.heap.size + 1 := by rw [hW1]; simp
  have hsh1 := hd.below' hb1 (Nat.le_refl _)
  have hm : ShowsG putC W1 w.heap.size (.slice (some ⟨w.heap.size, 0, none⟩) 1 1) [c] := by rw [hW1]; exact ShowsG.lit (C := putC) (w := w.drew) [c] (by simp [Code.all, putC, PutC.vs]) (by simp [maxLen])
  have hk1 := hw.kept hb1 (Nat.le_refl _)
  have hwd : BoxK w.drew wb (.slice A cs.length cs.length) v2 := hw
  have hpd : BoxT w.drew pb c := hp
  obtain ⟨⟨e0, e1, e2, e3, e4, e5⟩, e6, e7, e8, e9, e10, e11⟩ := hpd.cells
  have kd := hwd.c0
  have k1 := hk1.c0
  have k1b : (w.alloc (Obj.cells #[.string c.e.q, .int .u64 c.e.id, .string c.e.p.key, .bool c.e.p.dur, .bool c.e.p.red, .string c.e.p.id, .int .u8 c.x.k, .int .u64 c.x.n, .string c.x.s, .slice c.x.a3 c.x.n3 c.x.c3, .slice c.x.a4 c.x.n4 c.x.c4, .string c.e.body] 35)).cell? ⟨wb, 0, none⟩ = some (.slice A cs.length cs.length) := (hw.kept ((Below.refl _ _).alloc (Nat.le_refl _) _) (Nat.le_refl _)).c0
  rw [hW1] at k1 hsh1 hm
  have HB1 := Lib.hid (And.intro hb1 (And.intro hs1 hk1))
  rw [hW1] at HB1
  have hwlt := hw.lt
  have HWL := Lib.hid hwlt
  clear hw hp h hd hb1 hs1 hk1 hwd hpd hW1 hwlt
  go_enter Tryz.func36, Tryz.ntmps36
  go_upto_region 3 with fail
  go_region_law (first
    | (refine step_append_cutG putC _ rfl (.tmp 14) (.tmp 16) 22 rfl 35 _ 160 Tryz.underlying22 infoPut rfl A cs rfl d hsh1 w.heap.size (.slice (some ⟨w.heap.size, 0, none⟩) 1 1) [c] rfl hm (by simp) (by simp only [List.length_singleton]; omega) (by simp only [List.length_singleton]; omega) ?_
       intro v6 w6 ho6 hg6
       obtain ⟨A6, c6, rfl, _, _⟩ := ho6.form
       have hk6 : BoxK w6 wb (.slice A cs.length cs.length) v2 := (hg6.block wb (by have := HB1.out.2.2.lt; exact this) (by simp)).trans HB1.out.2.2
       have m0 := hk6.c0
       have g0 := hk6.fr 0))
  all_goals
    have hl : (cs ++ [c]).length = cs.length + 1 := by rw [List.length_append, List.length_singleton]
    rw [hl] at ho6
    have hW : w.heap.size + 1 = w.heap.size + 1 := rfl
    replace ho6 := ho6.mono (b' := w.heap.size + 1) (by show w.heap.size + 1 ≤ (World.alloc w _).heap.size; rw [World.size_alloc]; exact Nat.le_refl _)
    have ho7 := (ho6.keep (w' := w6.setCell ⟨wb, 0, none⟩ (.slice A6 (cs.length + 1) c6)) (fun g hg => Below.heap_setCell _ _ _ _ (by show g ≠ wb; have := (ho6.block g hg).1; have := HWL.out; omega))).mono (b' := w.heap.size) (by omega)
    have H7 := Lib.hid (And.intro ho7 (And.intro (hk6.set0 (.slice A6 (cs.length + 1) c6)) (below_room (wb := wb) (v := .slice A6 (cs.length + 1) c6) HB1.out.1 hg6)))
    clear ho6 hg6 hk6 hl hW ho7 e0 e1 e2 e3 e4 e5 e6 e7 e8 e9 e10 e11 k1 k1b kd k0 hsh1 hm HB1
    go_wp2_with fail
    go_ret
    exact ⟨_, rfl, H7.out.1, H7.out.2.1, H7.out.2.2⟩

end Go.Proofs.YtpmafabphlejeaaGreat
/-
  The contracts of what AddTake appends.
  Conditions: none but sizes.
-/
namespace Go.Proofs.YtpmafabphlejeaaGreat
open Go.RowKit
set_option linter.unusedVariables false
set_option linter.unusedSimpArgs false
set_option maxRecDepth 100000

theorem below_room1 {w w1 w2 : World} {wb : Nat} {v : Value} (h1 : Below w.heap.size w w1) (h2 : w1.grownBy w2 none) : w.grownBy (w2.setCell ⟨wb, 1, none⟩ v) (some wb) :=
  ⟨h2.os.trans h1.os, h2.tape.trans h1.tape, h2.output.trans h1.output, by have := h1.size; have := h2.size; simp; omega, fun k hk hne => (Below.heap_setCell _ _ _ _ (by show k ≠ wb; intro e; exact hne (by rw [e]))).trans ((h2.block k (by have := h1.size; omega) (by simp)).trans (h1.block k hk))⟩
/-- What AddTake's closure leaves: a box with a longer row. -/
def AddTSaid (wb : Nat) (v1 : Value) (rs : List RefE) (r : RefE) (w : World) (e : Ending) (w' : World) : Prop :=
  ∃ v', e = .returned (.int .i64 0) ∧ OwnG refC 37 w' w.heap.size v' (rs ++ [r]) ∧ BoxK w' wb v1 v' ∧ w.grownBy w' (some wb)
theorem grown_behind {w w3 w' : World} {wb : Nat} (h : w3.grownBy w' (some wb)) (hb : Below w.heap.size w w3) : w.grownBy w' (some wb) :=
  ⟨h.os.trans hb.os, h.tape.trans hb.tape, h.output.trans hb.output, Nat.le_trans hb.size h.size, fun k hk hne => (h.block k (Nat.lt_of_lt_of_le hk hb.size) hne).trans (hb.block k hk)⟩
set_option maxHeartbeats 1000000 in
theorem addT1_there (wb pb : Nat) (A : Option Addr) (v1 : Value) (rs : List RefE) (r : RefE) (w : World) (hw : BoxK w wb v1 (.slice A rs.length rs.length)) (hp : BoxR2 w pb r) (h : RowR w A rs.length rs) (hn : rs.length ≤ 100) (hi : r ∈ rs) :
    Calls Tryz.prog 38 #[.pointer (some ⟨wb, 0, none⟩), .pointer (some ⟨pb, 0, none⟩)] w fun e w' => e = .returned (.int .i64 8) ∧ Below w.heap.size w w' := by
  have HCT := Lib.hid (containsR_any A rs.length rs r w.drew (h.kept (below_drew1 (Below.refl w.heap.size w)) (Nat.le_refl _)) (by omega))
  unfold refV at HCT
  have k0 : w.drew.cell? ⟨wb, 1, none⟩ = some (.slice A rs.length rs.length) := hw.c1
  have e0 : w.drew.cell? ⟨pb, 0, none⟩ = some (.string r.q) := hp.c0
  have e1 : w.drew.cell? ⟨pb, 1, none⟩ = some (.int .u64 r.id) := hp.c1
  rw [decide_eq_true hi] at HCT
  clear hw hp h hi hn
  go_enter Tryz.func38, Tryz.ntmps38
  go_upto_region 1 with fail
  go_region_with (go_at_call 39
                  refine HCT.out.mono ?_
                  rintro e w3 ⟨rfl, hb3⟩)
  all_goals
    have HB := Lib.hid (show Below w.heap.size w w3 from (below_drew1 (Below.refl _ _)).trans hb3)
    clear hb3
    go_wp2_with fail
    go_ret
    exact ⟨rfl, HB.out⟩
set_option maxHeartbeats 1000000 in
theorem addT1_full (wb pb : Nat) (A : Option Addr) (v1 : Value) (rs : List RefE) (r : RefE) (w : World) (hw : BoxK w wb v1 (.slice A rs.length rs.length)) (hp : BoxR2 w pb r) (h : RowR w A rs.length rs) (hn : rs.length = 100) (hi : r ∉ rs) :
    Calls Tryz.prog 38 #[.pointer (some ⟨wb, 0, none⟩), .pointer (some ⟨pb, 0, none⟩)] w fun e w' => e = .returned (.int .i64 6) ∧ Below w.heap.size w w' := by
  have HCT := Lib.hid (containsR_any A rs.length rs r w.drew (h.kept (below_drew1 (Below.refl w.heap.size w)) (Nat.le_refl _)) (by omega))
  unfold refV at HCT
  have k0 : w.drew.cell? ⟨wb, 1, none⟩ = some (.slice A rs.length rs.length) := hw.c1
  have e0 : w.drew.cell? ⟨pb, 0, none⟩ = some (.string r.q) := hp.c0
  have e1 : w.drew.cell? ⟨pb, 1, none⟩ = some (.int .u64 r.id) := hp.c1
  rw [decide_eq_false hi] at HCT
  have t1 : ((rs.length : Int) == 100) = true := by simp; omega
  have HW := Lib.hid (fun w' (hb : Below w.heap.size w w') => (hw.kept hb (Nat.le_refl _)).c1)
  clear hw hp h hi hn
  go_enter Tryz.func38, Tryz.ntmps38
  go_upto_region 1 with fail
  go_region_with (go_at_call 39
                  refine HCT.out.mono ?_
                  rintro e w3 ⟨rfl, hb3⟩)
  all_goals
    have hb4 : Below w.heap.size w w3 := (below_drew1 (Below.refl _ _)).trans hb3
    have k3 := HW.out _ hb4
    have HB := Lib.hid hb4
    clear hb3 hb4
    go_wp2_with fail
    go_ret
    exact ⟨rfl, HB.out⟩
set_option maxHeartbeats 4000000 in
theorem addT1_room (wb pb : Nat) (A : Option Addr) (v1 : Value) (rs : List RefE) (r : RefE) (w : World) (hw : BoxK w wb v1 (.slice A rs.length rs.length)) (hp : BoxR2 w pb r) (h : RowR w A rs.length rs) (hn : rs.length < 100) (hi : r ∉ rs) :
    Calls Tryz.prog 38 #[.pointer (some ⟨wb, 0, none⟩), .pointer (some ⟨pb, 0, none⟩)] w (AddTSaid wb v1 rs r w) := by
  unfold AddTSaid
  have HCT := Lib.hid (containsR_any A rs.length rs r w.drew (h.kept (below_drew1 (Below.refl w.heap.size w)) (Nat.le_refl _)) (by omega))
  unfold refV at HCT
  have k0 : w.drew.cell? ⟨wb, 1, none⟩ = some (.slice A rs.length rs.length) := hw.c1
  have e0 : w.drew.cell? ⟨pb, 0, none⟩ = some (.string r.q) := hp.c0
  have e1 : w.drew.cell? ⟨pb, 1, none⟩ = some (.int .u64 r.id) := hp.c1
  rw [decide_eq_false hi] at HCT
  have t1 : ((rs.length : Int) == 100) = false := by simp; omega
  have HK := Lib.hid (fun w' (hb : Below w.heap.size w w') => And.intro (hw.kept hb (Nat.le_refl _)) (And.intro (hp.kept hb (Nat.le_refl _)) (h.kept hb (Nat.le_refl _))))
  clear hw hp h hi
  go_enter Tryz.func38, Tryz.ntmps38
  go_upto_region 1 with fail
  go_region_with (go_at_call 39
                  refine HCT.out.mono ?_
                  rintro e w3 ⟨rfl, hb3⟩)
  all_goals
    have hb4 : Below w.heap.size w w3 := (below_drew1 (Below.refl _ _)).trans hb3
    obtain ⟨hw3, hp3, h3⟩ := HK.out _ hb4
    have HB4 := Lib.hid hb4
    clear hb3 hb4 k0 e0 e1
    have k0 := hw3.c1
    obtain ⟨d, hd⟩ := h3.row
    obtain ⟨W1, hW1⟩ : ∃ W1, W1 = w3.drew.alloc (Obj.cells #[.string r.q, .int .u64 r.id] 37) := ⟨_, rfl⟩
    have hb1 : Below w3.heap.size w3 W1 := by rw [hW1]; exact (below_drew1 (Below.refl w3.heap.size w3)).alloc (Nat.le_refl _) _
    have hs1 : W1.heap.size = w3.heap.size + 1 := by rw [hW1]; simp
    have hsh1 := hd.below' hb1 (Nat.le_refl _)
    have hm : ShowsG refC W1 w3.heap.size (.slice (some ⟨w3.heap.size, 0, none⟩) 1 1) [r] := by rw [hW1]; exact ShowsG.lit (C := refC) (w := w3.drew) [r] (by simp [Code.all, refC, RefE.vs]) (by simp [maxLen])
    have hk1 := hw3.kept hb1 (Nat.le_refl _)
    have hwd : BoxK w3.drew wb v1 (.slice A rs.length rs.length) := hw3
    have hpd : BoxR2 w3.drew pb r := hp3
    have e0 := hpd.c0
    have e1 := hpd.c1
    have kd := hwd.c1
    have k1 := hk1.c1
    have k1b : (w3.alloc (Obj.cells #[.string r.q, .int .u64 r.id] 37)).cell? ⟨wb, 1, none⟩ = some (.slice A rs.length rs.length) := (hw3.kept ((Below.refl _ _).alloc (Nat.le_refl _) _) (Nat.le_refl _)).c1
    rw [hW1] at k1 hsh1 hm
    have HB1 := Lib.hid (And.intro hb1 (And.intro hs1 hk1))
    rw [hW1] at HB1
    have hwlt := hw3.lt
    have HWL := Lib.hid hwlt
    clear hw3 hp3 h3 hd hb1 hs1 hk1 hwd hpd hW1 hwlt
    go_upto_region 5 with fail
    go_region_law (first
      | (refine step_append_cutG refC _ rfl (.tmp 20) (.tmp 22) 23 rfl 37 _ 24 Tryz.underlying23 infoRef rfl A rs rfl d hsh1 w3.heap.size (.slice (some ⟨w3.heap.size, 0, none⟩) 1 1) [r] rfl hm (by simp) (by simp only [List.length_singleton]; omega) (by simp only [List.length_singleton]; omega) ?_
         intro v6 w6 ho6 hg6
         obtain ⟨A6, c6, rfl, _, _⟩ := ho6.form
         have hk6 : BoxK w6 wb v1 (.slice A rs.length rs.length) := (hg6.block wb (by have := HB1.out.2.2.lt; exact this) (by simp)).trans HB1.out.2.2
         have m0 := hk6.c1
         have g0 := hk6.fr 1))
    all_goals
      have hl : (rs ++ [r]).length = rs.length + 1 := by rw [List.length_append, List.length_singleton]
      rw [hl] at ho6
      have hW : w3.heap.size + 1 = w3.heap.size + 1 := rfl
      replace ho6 := ho6.mono (b' := w3.heap.size + 1) (by show w3.heap.size + 1 ≤ (World.alloc w3 _).heap.size; rw [World.size_alloc]; exact Nat.le_refl _)
      have ho7 := (ho6.keep (w' := w6.setCell ⟨wb, 1, none⟩ (.slice A6 (rs.length + 1) c6)) (fun g hg => Below.heap_setCell _ _ _ _ (by show g ≠ wb; have := (ho6.block g hg).1; have := HWL.out; omega))).mono (b' := w3.heap.size) (by omega)
      have H7 := Lib.hid (And.intro ho7 (And.intro (hk6.set1 (.slice A6 (rs.length + 1) c6)) (below_room1 (wb := wb) (v := .slice A6 (rs.length + 1) c6) HB1.out.1 hg6)))
      clear ho6 hg6 hk6 hl hW ho7 e0 e1 k1 k1b kd k0 hsh1 hm HB1
      go_wp2_with fail
      go_ret
      have hz4 := HB4.out.size
      exact ⟨_, rfl, H7.out.1.mono hz4, H7.out.2.1, grown_behind H7.out.2.2 HB4.out⟩

end Go.Proofs.YtpmafabphlejeaaGreat
/-
  The contract of the program's added, whatever is appended.
  Conditions: none but sizes.
-/
namespace Go.Proofs.YtpmafabphlejeaaGreat
open Go.RowKit
set_option linter.unusedVariables false
set_option linter.unusedSimpArgs false
set_option maxRecDepth 100000

theorem RowP.cut {w : World} {A : Option Addr} {n : Nat} {cs : List PutC} (h : RowP w A n cs) : RowP w A cs.length cs := by
  obtain ⟨d, hd⟩ := h.row
  have h1 := hd.head' (k := cs.length) (c' := cs.length) (Nat.le_refl _) (Nat.le_refl _) hd.lens.2.1
  rw [List.take_length] at h1
  exact ⟨⟨d, h1⟩, h.each, h.lm⟩
theorem RowR.cut {w : World} {A : Option Addr} {n : Nat} {rs : List RefE} (h : RowR w A n rs) : RowR w A rs.length rs := by
  obtain ⟨d, hd⟩ := h.row
  have h1 := hd.head' (k := rs.length) (c' := rs.length) (Nat.le_refl _) (Nat.le_refl _) hd.lens.2.1
  rw [List.take_length] at h1
  exact ⟨⟨d, h1⟩, h.each, h.lm⟩
theorem RowP.le {w : World} {A : Option Addr} {n : Nat} {cs : List PutC} (h : RowP w A n cs) : cs.length ≤ n := by
  obtain ⟨d, hd⟩ := h.row
  exact hd.lens.2.1
theorem RowR.le {w : World} {A : Option Addr} {n : Nat} {rs : List RefE} (h : RowR w A n rs) : rs.length ≤ n := by
  obtain ⟨d, hd⟩ := h.row
  exact hd.lens.2.1
def FewE (ps : List PutE) : Prop := ∀ p ∈ ps, cntT p.p.app ≤ 400
theorem fewS_iff {cs : List PutC} : FewS cs ↔ FewE (esOf cs) := by
  unfold FewS FewE esOf
  constructor
  · intro h p hp
    obtain ⟨c, hc, rfl⟩ := List.mem_map.1 hp
    obtain ⟨j, hj, rfl⟩ := List.getElem_of_mem hc
    exact h j hj
  · intro h j hj
    exact h _ (List.mem_map.2 ⟨_, List.getElem_mem hj, rfl⟩)

/-- Three boxes of works. -/
structure At3 (w0 : World) (v1 v2 o1 o2 : Value) (w : World) : Prop where
  a : BoxK w w0.heap.size v1 v2
  o : BoxK w (w0.heap.size + 1) o1 o2
  z : BoxK w (w0.heap.size + 1 + 1) (.slice none 0 0) (.slice none 0 0)
  bel : Below w0.heap.size w0 w
section
variable {w0 w w' : World} {v1 v2 o1 o2 : Value}
theorem At3.step (h : At3 w0 v1 v2 o1 o2 w) (hb : Below w.heap.size w w') : At3 w0 v1 v2 o1 o2 w' := ⟨h.a.kept hb (Nat.le_refl _), h.o.kept hb (Nat.le_refl _), h.z.kept hb (Nat.le_refl _), h.bel.trans (hb.mono h.bel.size)⟩
theorem At3.drw (h : At3 w0 v1 v2 o1 o2 w) : At3 w0 v1 v2 o1 o2 w.drew := h.step (below_drew1 (Below.refl _ _))
theorem At3.new (w : World) (v1 v2 o1 o2 : Value) : At3 w v1 v2 o1 o2 (((w.alloc (Obj.cells #[v1, v2] 25)).alloc (Obj.cells #[o1, o2] 25)).alloc (Obj.cells #[.slice none 0 0, .slice none 0 0] 25)) := by
  refine ⟨((BoxK.new w v1 v2).kept ((Below.refl _ _).alloc (Nat.le_refl _) _) (Nat.le_refl _)).kept ((Below.refl _ _).alloc (Nat.le_refl _) _) (Nat.le_refl _), ?_, ?_, ((below_boxV _ _).alloc (by simp) _).alloc (by simp; omega) _⟩
  · have := BoxK.new (w.alloc (Obj.cells #[v1, v2] 25)) o1 o2
    rw [World.size_alloc] at this
    exact this.kept ((Below.refl _ _).alloc (Nat.le_refl _) _) (Nat.le_refl _)
  · have := BoxK.new ((w.alloc (Obj.cells #[v1, v2] 25)).alloc (Obj.cells #[o1, o2] 25)) (.slice none 0 0) (.slice none 0 0)
    rw [World.size_alloc, World.size_alloc] at this
    exact this
/-- The second box of two cells gets what it says. -/
theorem At3.setz (h : At3 w0 v1 v2 o1 o2 w) (u1 u2 : Value) : BoxK ((w.setCell ⟨w0.heap.size + 1 + 1, 0, none⟩ u1).setCell ⟨w0.heap.size + 1 + 1, 1, none⟩ u2) (w0.heap.size + 1 + 1) u1 u2 ∧ Below w0.heap.size w0 ((w.setCell ⟨w0.heap.size + 1 + 1, 0, none⟩ u1).setCell ⟨w0.heap.size + 1 + 1, 1, none⟩ u2) :=
  ⟨(h.z.set0 u1).set1 u2, below_set (below_set h.bel (by show w0.heap.size ≤ w0.heap.size + 1 + 1; omega) _) (by show w0.heap.size ≤ w0.heap.size + 1 + 1; omega) _⟩
end

/-- What added tells. -/
def AddedSaid (ps : List PutE) (rs : List RefE) (er : Nat) (w : World) (e : Ending) (w' : World) : Prop :=
  ∃ y : WorkC, e = .returned (.tuple #[workVal y, .int .i64 er]) ∧ y.ps = ps ∧ y.rs = rs ∧ OwnW w' w.heap.size y ∧ Below w.heap.size w w'
theorem zW_own (w : World) (base : Nat) : OwnW w base zW := ⟨⟨0, GRow.nil _ _ _ _ _⟩, ⟨0, OwnG.nil_ _ _ _ _⟩, rfl, rfl⟩

set_option maxHeartbeats 4000000 in
/-- One of the two works may not be. -/
theorem added_bad (g pb : Nat) (x o : WorkC) (w : World) (h : ShowsW w x) (hf : Few x.cs) (ho : ShowsW w o) (hfo : Few o.cs) (hbad : wB x.ps x.rs = false ∨ wB o.ps o.rs = false) :
    Calls Tryz.prog 35 #[workVal x, workVal o, .func (.func g) #[] #[.pointer (some ⟨pb, 0, none⟩)]] w (AddedSaid [] [] 130 w) := by
  have HC1 := Lib.hid (fun w' (hb : Below w.heap.size w w') => wcheck_any x w' (h.kept hb (Nat.le_refl _)) hf)
  have HC2 := Lib.hid (fun w' (hb : Below w.heap.size w w') => wcheck_any o w' (ho.kept hb (Nat.le_refl _)) hfo)
  cases hv : wB x.ps x.rs
  case false =>
    rw [errW_no hv] at HC1
    clear h hf ho hfo hbad hv HC2
    obtain ⟨A1, c1, cs, A2, c2, rs⟩ := x
    obtain ⟨B1, b1, ds, B2, b2, ss⟩ := o
    unfold workVal AddedSaid at *
    simp only [] at *
    have hA0 := At3.new w (.slice A1 cs.length c1) (.slice A2 rs.length c2) (.slice B1 ds.length b1) (.slice B2 ss.length b2)
    obtain ⟨W2, hW2⟩ : ∃ W2, W2 = ((w.alloc (Obj.cells #[.slice A1 cs.length c1, .slice A2 rs.length c2] 25)).alloc (Obj.cells #[.slice B1 ds.length b1, .slice B2 ss.length b2] 25)).alloc (Obj.cells #[.slice none 0 0, .slice none 0 0] 25) := ⟨_, rfl⟩
    rw [← hW2] at hA0
    have k0 := hA0.a.c0
    have k1 := hA0.a.c1
    have HW2 := Lib.hid hW2.symm
    have HA0 := Lib.hid hA0
    clear hW2 hA0
    go_enter Tryz.func35, Tryz.ntmps35
    go_upto_region 1 with fail
    rw [HW2.out]
    go_wp2_with fail
    refine (HC1.out _ HA0.out.bel).mono ?_
    rintro e w3 ⟨rfl, hb3⟩
    have hA3 := HA0.out.step hb3
    clear k0 k1
    have z0 := hA3.z.c0
    have z1 := hA3.z.c1
    have f0 := hA3.z.fr 0
    have f1 := hA3.z.fr 1
    have HX := Lib.hid (hA3.setz (.slice none 0 0) (.slice none 0 0))
    clear hb3 hA3
    go_wp2_with fail
    exact bodyPost_ret (results_row_tmp rfl _ _ (w.heap.size + 1 + 1) 25 _ (0, 0) _ rfl HX.out.1 Tryz.underlying25 rfl (by kernel_rfl)) rfl ⟨zW, rfl, rfl, rfl, zW_own _ _, HX.out.2⟩
  case true =>
    have hv2 : wB o.ps o.rs = false := by
      rcases hbad with h1 | h1
      · rw [hv] at h1; cases h1
      · exact h1
    rw [errW_ok hv] at HC1
    rw [errW_no hv2] at HC2
    clear h hf ho hfo hbad hv hv2
    obtain ⟨A1, c1, cs, A2, c2, rs⟩ := x
    obtain ⟨B1, b1, ds, B2, b2, ss⟩ := o
    unfold workVal AddedSaid at *
    simp only [] at *
    have hA0 := At3.new w (.slice A1 cs.length c1) (.slice A2 rs.length c2) (.slice B1 ds.length b1) (.slice B2 ss.length b2)
    obtain ⟨W2, hW2⟩ : ∃ W2, W2 = ((w.alloc (Obj.cells #[.slice A1 cs.length c1, .slice A2 rs.length c2] 25)).alloc (Obj.cells #[.slice B1 ds.length b1, .slice B2 ss.length b2] 25)).alloc (Obj.cells #[.slice none 0 0, .slice none 0 0] 25) := ⟨_, rfl⟩
    rw [← hW2] at hA0
    have k0 := hA0.a.c0
    have k1 := hA0.a.c1
    have HW2 := Lib.hid hW2.symm
    have HA0 := Lib.hid hA0
    clear hW2 hA0
    go_enter Tryz.func35, Tryz.ntmps35
    go_upto_region 1 with fail
    rw [HW2.out]
    go_wp2_with fail
    refine (HC1.out _ HA0.out.bel).mono ?_
    rintro e w3 ⟨rfl, hb3⟩
    have hA3 := HA0.out.step hb3
    clear k0 k1
    have k0 := hA3.o.c0
    have k1 := hA3.o.c1
    have HA3 := Lib.hid hA3
    clear hA3 hb3
    go_wp2_with fail
    refine (HC2.out _ HA3.out.bel).mono ?_
    rintro e w4 ⟨rfl, hb4⟩
    have hA4 := HA3.out.step hb4
    clear k0 k1
    have z0 := hA4.z.c0
    have z1 := hA4.z.c1
    have f0 := hA4.z.fr 0
    have f1 := hA4.z.fr 1
    have HX := Lib.hid (hA4.setz (.slice none 0 0) (.slice none 0 0))
    clear hb4 hA4
    go_wp2_with fail
    exact bodyPost_ret (results_row_tmp rfl _ _ (w.heap.size + 1 + 1) 25 _ (0, 0) _ rfl HX.out.1 Tryz.underlying25 rfl (by kernel_rfl)) rfl ⟨zW, rfl, rfl, rfl, zW_own _ _, HX.out.2⟩

/-- Both may be: the lists are cut, and what is appended is called. -/
def CloOK (wb : Nat) (ps : List PutE) (rs : List RefE) (w w' : World) : Prop :=
  (∃ y : WorkC, BoxK w' wb (.slice y.A1 y.cs.length y.c1) (.slice y.A2 y.rs.length y.c2) ∧ ShowsW w' y ∧ y.ps = ps ∧ y.rs = rs ∧ FewS y.cs ∧ y.cs.length ≤ 100 ∧ y.rs.length ≤ 100) ∧ w.grownBy w' (some wb)

set_option maxHeartbeats 8000000 in
theorem added_good (g pb : Nat) (x o : WorkC) (w : World) (h : ShowsW w x) (hf : Few x.cs) (ho : ShowsW w o) (hfo : Few o.cs) (hv : wB x.ps x.rs = true) (hv2 : wB o.ps o.rs = true)
    (eg : ∀ args w, (callFunc g args).run Tryz.prog w = .ok (.enter g args) w) (E : Int) (ps' : List PutE) (rs' : List RefE)
    (hg : ∀ w', Below w.heap.size w w' → BoxK w' w.heap.size (.slice x.A1 x.cs.length x.cs.length) (.slice x.A2 x.rs.length x.rs.length) → Calls Tryz.prog g #[.pointer (some ⟨w.heap.size, 0, none⟩), .pointer (some ⟨pb, 0, none⟩)] w' fun e w'' => e = .returned (.int .i64 E) ∧ w'.grownBy w'' (some w.heap.size) ∧ (E = 0 → CloOK w.heap.size ps' rs' w' w''))
    (ec : Nat) (hE : E = (ec : Int)) :
    Calls Tryz.prog 35 #[workVal x, workVal o, .func (.func g) #[] #[.pointer (some ⟨pb, 0, none⟩)]] w (AddedSaid (if ec = 0 then ps' else []) (if ec = 0 then rs' else []) ec w) := by
  have HC1 := Lib.hid (fun w' (hb : Below w.heap.size w w') => wcheck_any x w' (h.kept hb (Nat.le_refl _)) hf)
  have HC2 := Lib.hid (fun w' (hb : Below w.heap.size w w') => wcheck_any o w' (ho.kept hb (Nat.le_refl _)) hfo)
  have hle1 := h.puts.le
  have hle2 := h.takes.le
  rw [errW_ok hv] at HC1
  rw [errW_ok hv2] at HC2
  have HG := Lib.hid hg
  obtain ⟨P1, hP1⟩ : ∃ P1, P1 = if ec = 0 then ps' else [] := ⟨_, rfl⟩
  obtain ⟨P2, hP2⟩ : ∃ P2, P2 = if ec = 0 then rs' else [] := ⟨_, rfl⟩
  rw [← hP1, ← hP2]
  have HPP := Lib.hid (And.intro hP1 hP2)
  unfold AddedSaid
  clear h hf ho hfo hv hv2 hg hP1 hP2
  obtain ⟨A1, c1, cs, A2, c2, rs⟩ := x
  obtain ⟨B1, b1, ds, B2, b2, ss⟩ := o
  unfold workVal at *
  simp only [] at *
  have HK1 := Lib.hid (fun w' => cutP_any A1 cs.length c1 w' hle1)
  have HK2 := Lib.hid (fun w' => cutR_any A2 rs.length c2 w' hle2)
  have hA0 := At3.new w (.slice A1 cs.length c1) (.slice A2 rs.length c2) (.slice B1 ds.length b1) (.slice B2 ss.length b2)
  obtain ⟨W2, hW2⟩ : ∃ W2, W2 = ((w.alloc (Obj.cells #[.slice A1 cs.length c1, .slice A2 rs.length c2] 25)).alloc (Obj.cells #[.slice B1 ds.length b1, .slice B2 ss.length b2] 25)).alloc (Obj.cells #[.slice none 0 0, .slice none 0 0] 25) := ⟨_, rfl⟩
  rw [← hW2] at hA0
  have k0 := hA0.a.c0
  have k1 := hA0.a.c1
  have HW2 := Lib.hid hW2.symm
  have HA0 := Lib.hid hA0
  clear hW2 hA0 hle1 hle2
  go_enter Tryz.func35, Tryz.ntmps35
  go_upto_region 1 with fail
  rw [HW2.out]
  go_wp2_with fail
  refine (HC1.out _ HA0.out.bel).mono ?_
  rintro e w3 ⟨rfl, hb3⟩
  have hA3 := HA0.out.step hb3
  clear k0 k1
  have k0 := hA3.o.c0
  have k1 := hA3.o.c1
  have HA3 := Lib.hid hA3
  clear hA3 hb3
  go_wp2_with fail
  refine (HC2.out _ HA3.out.bel).mono ?_
  rintro e w4 ⟨rfl, hb4⟩
  have hA4 := HA3.out.step hb4
  clear k0 k1
  have k0 : w4.drew.cell? ⟨w.heap.size, 0, none⟩ = some (.slice A1 cs.length c1) := hA4.a.c0
  have k1 : w4.drew.cell? ⟨w.heap.size, 1, none⟩ = some (.slice A2 rs.length c2) := hA4.a.c1
  have f0 : w4.drew.frozen? ⟨w.heap.size, 0, none⟩ = false := hA4.a.fr 0
  have f1 : w4.drew.frozen? ⟨w.heap.size, 1, none⟩ = false := hA4.a.fr 1
  have q0 : w4.cell? ⟨w.heap.size, 0, none⟩ = some (.slice A1 cs.length c1) := hA4.a.c0
  have q1 : w4.cell? ⟨w.heap.size, 1, none⟩ = some (.slice A2 rs.length c2) := hA4.a.c1
  have r0 : w4.frozen? ⟨w.heap.size, 0, none⟩ = false := hA4.a.fr 0
  have r1 : w4.frozen? ⟨w.heap.size, 1, none⟩ = false := hA4.a.fr 1
  have HA4 := Lib.hid hA4
  clear hb4 hA4
  go_upto_region 3 with fail
  go_region_law (first
    | (go_simp; go_at_call 61
       with_reducible refine (HK1.out _).mono ?_
       rintro e w5 ⟨rfl, rfl⟩)
    | (go_simp; go_at_call 62
       with_reducible refine (HK2.out _).mono ?_
       rintro e w6 ⟨rfl, rfl⟩))
  all_goals
    have hA4 := HA4.out
    obtain ⟨W5, hW5⟩ : ∃ W5, W5 = ((w4.setCell ⟨w.heap.size, 0, none⟩ (.slice A1 cs.length cs.length)).setCell ⟨w.heap.size, 1, none⟩ (.slice A2 rs.length rs.length)).drew := ⟨_, rfl⟩
    have hA5 : At3 w (.slice A1 cs.length cs.length) (.slice A2 rs.length rs.length) (.slice B1 ds.length b1) (.slice B2 ss.length b2) W5 := by
      rw [hW5]
      refine At3.drw ⟨(hA4.a.set0 _).set1 _, ?_, ?_, below_set (below_set hA4.bel (Nat.le_refl w.heap.size) _) (Nat.le_refl w.heap.size) _⟩
      · exact ((Below.heap_setCell _ _ _ _ (by show w.heap.size + 1 ≠ w.heap.size; omega)).trans (Below.heap_setCell _ _ _ _ (by show w.heap.size + 1 ≠ w.heap.size; omega))).trans hA4.o
      · exact ((Below.heap_setCell _ _ _ _ (by show w.heap.size + 1 + 1 ≠ w.heap.size; omega)).trans (Below.heap_setCell _ _ _ _ (by show w.heap.size + 1 + 1 ≠ w.heap.size; omega))).trans hA4.z
    rw [← hW5]
    have HCL := Lib.hid (HG.out W5 hA5.bel hA5.a)
    have HA5 := Lib.hid hA5
    clear hW5 hA5 hA4 k0 k1 f0 f1 q0 q1 r0 r1 HA4
    go_wp2_with fail
    refine HCL.out.mono ?_
    rintro e w6 ⟨rfl, hg6, hok⟩
    have hz6 : BoxK w6 (w.heap.size + 1 + 1) (.slice none 0 0) (.slice none 0 0) := (hg6.block _ HA5.out.z.lt (by intro e; have := Option.some.inj e; omega)).trans HA5.out.z
    have hb6 : Below w.heap.size w w6 := HA5.out.bel.grown hg6 HA5.out.bel.size (fun k e => by have := Option.some.inj e; omega)
    by_cases hec : ec = 0
    · have hE0 : E = 0 := by omega
      obtain ⟨⟨y, hyb, hys, hyp, hyr, hyf, hyl, hyl2⟩, _⟩ := hok hE0
      have hPP := HPP.out
      rw [if_pos hec, if_pos hec, ← hyp, ← hyr] at hPP
      obtain ⟨rfl, rfl⟩ := hPP
      have HCO := Lib.hid (copied_any y w6 hys (by omega) (by omega) hyf)
      unfold CopWSaid at HCO
      have k0 := hyb.c0
      have k1 := hyb.c1
      have HZ := Lib.hid (And.intro hz6 hb6)
      subst hec
      have hE1 : (E != 0) = false := by rw [hE0]; rfl
      clear hok hyb hys hyp hyr hyf hyl hyl2 hz6 hb6 hg6 hE HPP HCL
      obtain ⟨D1, d1, es, D2, d2, fs⟩ := y
      unfold workVal at HCO
      simp only [] at HCO k0 k1
      subst hE0
      clear hE1
      go_wp2_with fail
      refine HCO.out.mono ?_
      rintro e w7 ⟨⟨F1, f1, gs, F2, f2, hs⟩, rfl, hp7, hr7, ho7, hb7⟩
      have hz7 := HZ.out.1.kept hb7 (Nat.le_refl _)
      have hb07 := HZ.out.2.trans (hb7.mono HZ.out.2.size)
      have z0 := hz7.c0
      have z1 := hz7.c1
      have e0 := hz7.fr 0
      have e1 := hz7.fr 1
      have hX := (hz7.set0 (.slice F1 gs.length f1)).set1 (.slice F2 hs.length f2)
      have hB : Below w.heap.size w ((w7.setCell ⟨w.heap.size + 1 + 1, 0, none⟩ (.slice F1 gs.length f1)).setCell ⟨w.heap.size + 1 + 1, 1, none⟩ (.slice F2 hs.length f2)) := below_set (below_set hb07 (by show w.heap.size ≤ w.heap.size + 1 + 1; omega) _) (by show w.heap.size ≤ w.heap.size + 1 + 1; omega) _
      have hzl := HZ.out.1.lt
      have hO : OwnW ((w7.setCell ⟨w.heap.size + 1 + 1, 0, none⟩ (.slice F1 gs.length f1)).setCell ⟨w.heap.size + 1 + 1, 1, none⟩ (.slice F2 hs.length f2)) w.heap.size ⟨F1, f1, gs, F2, f2, hs⟩ :=
        (ho7.keep (by simp) (fun k hk _ => (Below.heap_setCell _ _ _ _ (by show k ≠ w.heap.size + 1 + 1; omega)).trans (Below.heap_setCell _ _ _ _ (by show k ≠ w.heap.size + 1 + 1; omega)))).mono HZ.out.2.size
      have HX := Lib.hid (And.intro hX (And.intro hB (And.intro hO (And.intro hp7 hr7))))
      clear hX hB hO hp7 hr7 ho7 hb7 hz7 hb07 k0 k1
      go_wp2_with fail
      exact bodyPost_ret (results_row_tmp rfl _ _ (w.heap.size + 1 + 1) 25 _ (0, 0) _ rfl HX.out.1 Tryz.underlying25 rfl (by kernel_rfl)) rfl ⟨⟨F1, f1, gs, F2, f2, hs⟩, rfl, HX.out.2.2.2.1, HX.out.2.2.2.2, HX.out.2.2.1, HX.out.2.1⟩
    · have hPP := HPP.out
      rw [if_neg hec, if_neg hec] at hPP
      obtain ⟨rfl, rfl⟩ := hPP
      have hE1 : (E != 0) = true := by rw [bne_iff_ne]; omega
      have z0 := hz6.c0
      have z1 := hz6.c1
      have e0 := hz6.fr 0
      have e1 := hz6.fr 1
      have hX := (hz6.set0 (.slice none 0 0)).set1 (.slice none 0 0)
      have hB : Below w.heap.size w ((w6.setCell ⟨w.heap.size + 1 + 1, 0, none⟩ (.slice none 0 0)).setCell ⟨w.heap.size + 1 + 1, 1, none⟩ (.slice none 0 0)) := below_set (below_set hb6 (by show w.heap.size ≤ w.heap.size + 1 + 1; omega) _) (by show w.heap.size ≤ w.heap.size + 1 + 1; omega) _
      have HX := Lib.hid (And.intro hX (And.intro hB hE))
      clear hX hB hok hz6 hb6 hg6 hE hec HPP HCL
      go_wp2_with fail
      exact bodyPost_ret (results_row_tmp rfl _ _ (w.heap.size + 1 + 1) 25 _ (0, 0) _ rfl HX.out.1 Tryz.underlying25 rfl (by kernel_rfl)) rfl ⟨zW, by rw [← HX.out.2.2]; rfl, rfl, rfl, zW_own _ _, HX.out.2.1⟩

end Go.Proofs.YtpmafabphlejeaaGreat
