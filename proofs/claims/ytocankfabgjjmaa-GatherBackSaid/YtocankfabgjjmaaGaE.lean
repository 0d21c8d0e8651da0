/-
  The contract of whole of gather's partial.
  Conditions: none but sizes.
-/
import Derived.Test.YtocankfabgjjmaaGaD
import Derived.Test.YtocankfabgjjmaaGaA
import Derived.BigRegion
import Derived.ChangeAlike
import Derived.RegionTactic
namespace Go.Proofs.Ytocankfabgjjmaa
open Go.RowKit
set_option linter.unusedVariables false
set_option linter.unusedSimpArgs false

theorem made_all {α : Type} (C : Code α) (y : α) (z : Array Value) (hz : z.toList = C.enc y) (n : Nat) : (madeCells z (n * C.sz)).toList = C.all (List.replicate n y) := by
  have hzs : z.size = C.sz := by rw [← Array.length_toList, hz, C.len]
  apply List.ext_getElem?
  intro i
  have hp := C.pos
  by_cases hi : i < n * C.sz
  · have hj : i / C.sz < n := Nat.div_lt_of_lt_mul (by rw [Nat.mul_comm]; exact hi)
    have e : i = i / C.sz * C.sz + i % C.sz := by have := Nat.div_add_mod i C.sz; rw [Nat.mul_comm] at this; omega
    have hm := Nat.mod_lt i hp
    have h2 := C.all_get (List.replicate n y) (i / C.sz) (i % C.sz) (by simpa using hj) hm
    rw [← e] at h2
    rw [h2, List.getElem_replicate, ← hz]
    simp only [madeCells, Array.toList_map, Array.toList_range, List.getElem?_map, List.getElem?_range hi, Option.map_some, Array.getElem?_toList]
    rw [hzs, getElem!_pos z _ (by omega), Array.getElem?_eq_getElem (by omega)]
  · rw [List.getElem?_eq_none (by rw [Array.length_toList, size_madeCells]; omega), List.getElem?_eq_none (by rw [C.all_length, List.length_replicate]; omega)]

/-- Where the segment with number j - 1 ends. -/
def endAt (bytes : List UInt8) (segs : List (Nat × Nat)) (j : Nat) : Nat := if h : j < segs.length then segs[j].2 else bytes.length

theorem pwhole_step (bytes : List UInt8) (segs : List (Nat × Nat)) (k : Nat) (h : k < segs.length) :
    wholeD bytes (segs.drop k) = ⟨segs[k].1, str8 ((bytes.take (endAt bytes segs (k + 1))).drop segs[k].2)⟩ :: wholeD bytes (segs.drop (k + 1)) := by
  rw [List.drop_eq_getElem_cons h]
  by_cases h2 : k + 1 < segs.length
  · rw [List.drop_eq_getElem_cons h2]
    simp [wholeD, endAt, h2]
  · rw [List.drop_of_length_le (by omega)]
    simp [wholeD, endAt, h2]
theorem pwhole_length (bytes : List UInt8) : ∀ segs : List (Nat × Nat), (wholeD bytes segs).length = segs.length
  | [] => rfl
  | [s] => rfl
  | s :: q :: r => by simp only [wholeD, List.length_cons]; rw [pwhole_length bytes (q :: r)]; simp

def sg0 : Sg := ⟨0, ⟨#[]⟩⟩
theorem infoSg : (Try.prog.info? 46).map (fun i => (i.zero, i.size, i.bytes)) = some (some (.agg #[.int .u8 0, .string ⟨#[]⟩]), 2, 24) := by kernel_rfl

/-- 'make([]T, n)', at the operation. -/
theorem wpList_makeG {α : Type} (C : Code α) {P : Program} (w : World) {ops : Array Oper} {rest : List Oper} {o : Oper} {a : Act} {Q : Exit → Act → World → Prop}
    (hg : o.guard = none) (l c : Operand) (t e : TypeId) (hop : o.op = Op.makeSlice t l c) (z : Value) (bytes : Nat) (y : α) (hzy : z.cells.toList = C.enc y)
    (ht : P.underlying t = some (.slice e)) (hi : (P.info? e).map (fun i => (i.zero, i.size, i.bytes)) = some (some z, C.sz, bytes))
    (L : Int) (n : Nat) (hl : a.eval l = .int .i64 L) (hc : a.eval c = .int .i64 L) (hL : L = (n : Int)) (hn : bytes * n ≤ 140737488355328) (hn2 : n ≤ 140737488355328)
    (hK : ∀ w', OwnG C e w' w.heap.size (.slice (some ⟨w.heap.size, 0, none⟩) n n) (List.replicate n y) → w.grownBy w' none → wpList P ops Q rest (a.put o.dst (.slice (some ⟨w.heap.size, 0, none⟩) n n)) w') :
    wpList P ops Q (o :: rest) a w := by
  obtain ⟨i, hi0, hz, hs1, hb1⟩ := info_parts hi
  refine wpList_make_full w hg l c t hop w.heap.size e i z C.sz ht hi0 hz hs1 .i64 .i64 L L n hl hc hL hL (by rw [hb1]; omega) (by simp only [maxLen]; omega) (Nat.le_refl _) fun w' h1 h2 => hK w' ?_ h2
  unfold OwnG
  rw [made_all C y z.cells hzy n] at h1
  rw [List.length_replicate]
  exact h1

theorem conv_mid {w : World} {d m c e f : Nat} {A : Option Addr} {l : List UInt8} (h : Shows w d (.slice A m c) l) (he : e ≤ m) (hf : f ≤ e) :
    (convert 57 9 (.slice (if c = f then A else Option.map (fun x => x.add f) A) (e - f) (c - f))).run Try.prog w = .ok (.string (str8 ((l.take e).drop f))) w := by
  obtain ⟨hl, hc, _⟩ := h.lens
  have h1 := h.head (k := e) (by omega)
  exact conv_at (h1.tail (k := f) (by rw [List.length_take]; omega) _ (fun hne => by rw [if_neg hne]))

theorem sgm_cell {w : World} {d o : Nat} {l : List (Nat × Nat)} (h : ∀ j (h : j < l.length) k, k < sgmC.sz → w.cell? ⟨d, o + (j * sgmC.sz + k), none⟩ = (sgmC.enc l[j])[k]?) {k : Nat} (hk : k < l.length) :
    w.cell? ⟨d, o + k * 2, none⟩ = some (.int .u8 (l[k].1 : Nat)) ∧ w.cell? ⟨d, o + k * 2 + 1, none⟩ = some (.int .i64 (l[k].2 : Nat)) :=
  ⟨h k hk 0 (by decide), h k hk 1 (by decide)⟩

def WholeSaid (p : Pt) (w : World) (e : Ending) (w' : World) : Prop := ∃ v, e = .returned v ∧ OwnG sgC 46 w' w.heap.size v (wholeD p.bytes p.segs) ∧ Below w.heap.size w w'

set_option maxRecDepth 100000 in
set_option maxHeartbeats 8000000 in
theorem pwhole_any (pb d1 d2 c1 c2 : Nat) (A1 A2 : Option Addr) (p : Pt) (w : World) (hX : BoxP w pb (.slice A1 p.segs.length c1) (.slice A2 p.bytes.length c2) p.head p.whole) (h1 : ShowsG sgmC w d1 (.slice A1 p.segs.length c1) p.segs) (h2 : Shows w d2 (.slice A2 p.bytes.length c2) p.bytes)
    (hs : p.segs.length ≤ 1000) (hy : p.bytes.length ≤ 16384) (hm : ∀ k (h : k < p.segs.length), p.segs[k].2 ≤ endAt p.bytes p.segs (k + 1)) (he : ∀ j, endAt p.bytes p.segs j ≤ p.bytes.length) :
    Calls Try.prog 16 #[.pointer (some ⟨pb, 0, none⟩)] w (WholeSaid p w) := by
  obtain ⟨segs, bytes, head, whole⟩ := p
  simp only at *
  unfold WholeSaid
  have HX := Lib.hid (fun w' (hb : Below w.heap.size w w') => hX.kept hb (Nat.le_refl _))
  have H1 := Lib.hid (fun w' (hb : Below w.heap.size w w') => h1.below' hb (Nat.le_refl _))
  have H2 := Lib.hid (fun w' (hb : Below w.heap.size w w') => h2.keep hb.size fun hp => hb.block d2 (h2.lt hp))
  have HM := Lib.hid hm
  have HE := Lib.hid he
  have HWS := Lib.hid (pwhole_step bytes segs)
  have x0 := hX.c0
  have x1 := hX.c1
  have hend : endAt bytes segs segs.length = bytes.length := by simp [endAt]
  clear hX h1 h2 hm he
  go_enter Try.func16, Try.ntmps16
  go_wp2_with (refine wpList_makeG sgC _ rfl (.tmp 11) (.tmp 11) 32 46 rfl (.agg #[.int .u8 0, .string ⟨#[]⟩]) 24 sg0 rfl Try.underlying32 infoSg _ segs.length rfl rfl rfl (by omega) (by omega) ?_
               intro w1 ho1 hg1
               have hb1 : Below w.heap.size w w1 := (Below.refl _ _).grown hg1 (Nat.le_refl _) (fun k hk => by cases hk)
               have z1 := (HX.out w1 hb1).c1)
  have hend2 := Lib.hid hend
  have HB1 := Lib.hid hb1
  have hw1 : wrap64 ((segs.length : Int) - 1) = (segs.length : Int) - 1 := w64_id _ (by omega) (by omega)
  have hw2 : IntKind.i64.wrap ((segs.length : Int) - 1) = (segs.length : Int) - 1 := i64_id _ (by omega) (by omega)
  clear hend hb1 hg1 x0 x1
  have HO1 : OwnG sgC 46 w1 w.heap.size (.slice (some ⟨w.heap.size, 0, none⟩) segs.length segs.length) (List.replicate segs.length sg0 ++ wholeD bytes (segs.drop segs.length)) := by
    rw [List.drop_of_length_le (Nat.le_refl _)]
    simpa [wholeD] using ho1
  rw [← hend2.out]
  clear ho1 z1
  go_loopw [4, 5] (fun x i wr => ∃ j : Nat, j ≤ segs.length ∧ i = .int .i64 ((j : Int) - 1) ∧ x = .int .i64 (endAt bytes segs j) ∧ OwnG sgC 46 wr w.heap.size (.slice (some ⟨w.heap.size, 0, none⟩) segs.length segs.length) (List.replicate j sg0 ++ wholeD bytes (segs.drop j)) ∧ Hid (Below w.heap.size w wr)) (fun _ i _ => (intOf i + 1).toNat)
  case atStart => exact ⟨segs.length, Nat.le_refl _, rfl, rfl, HO1, HB1⟩
  case round =>
    clear HO1 HB1 hw1 hw2 hend2
    obtain ⟨j, hj, rfl, rfl, hO, HB⟩ := hrel
    rename World => wj
    rcases j with _ | k
    · have e0 : (((0 : Nat) : Int) - 1) = -1 := by omega
      rw [e0]
      clear e0
      go_wp2_with fail
      go_ret
      refine ⟨_, rfl, ?_, HB.out⟩
      simpa using hO
    · have e0 : (((k + 1 : Nat) : Int) - 1) = (k : Int) := by omega
      rw [e0]
      clear e0
      have hkl : k < segs.length := by omega
      have hkI : (k : Int) < (segs.length : Int) := by omega
      have hk0 : (0 : Int) ≤ (k : Int) := by omega
      have hw1 : wrap64 ((k : Int) - 1) = (k : Int) - 1 := w64_id _ (by omega) (by omega)
      have hw2 : IntKind.i64.wrap ((k : Int) - 1) = (k : Int) - 1 := i64_id _ (by omega) (by omega)
      have hsz : w.heap.size < wj.heap.size := by
        obtain ⟨b, hb, h3, h4, _⟩ := hO.at_ (by omega)
        cases hb
        exact h4
      obtain ⟨o1, rfl, hd1, hcl⟩ := (H1.out wj HB.out).at_ (by omega)
      obtain ⟨y0, y1⟩ := sgm_cell hcl hkl
      have z0 := (HX.out wj HB.out).c0
      have hlen : (List.replicate (k + 1) sg0 ++ wholeD bytes (segs.drop (k + 1))).length = segs.length := by rw [List.length_append, List.length_replicate, pwhole_length, List.length_drop]; omega
      have hstep := HWS.out k hkl
      have hfe := HM.out k hkl
      have hem := HE.out (k + 1)
      have hfk : endAt bytes segs k = segs[k].2 := by simp [endAt, hkl]
      generalize segs[k].1 = t at *
      generalize hff : segs[k].2 = f at *
      generalize endAt bytes segs (k + 1) = e at *
      have hbA : Below w.heap.size w (wj.alloc (Obj.cells #[.int .u8 t, .int .i64 f] 74)) := HB.out.alloc HB.out.size _
      have z1 := (HX.out _ hbA).c1
      have hsh2 := (H2.out _ hbA)
      have hconv := Lib.hid (conv_mid (w := (wj.alloc (Obj.cells #[.int .u8 t, .int .i64 f] 74)).drew) hsh2 hem hfe)
      obtain ⟨b, hb, hb1, hb2, hfr, hcc⟩ := hO.at_ (by omega)
      cases hb
      have s0 := hcc k (by omega) 0 (by decide)
      have s1 := hcc k (by omega) 1 (by decide)
      have fr0 := hfr (k * 2)
      have fr1 := hfr (k * 2 + 1)
      have hset := hO.set_ k 0 (by omega) (by decide) ⟨t, ⟨#[]⟩⟩ (.int .u8 t) (by
        rw [List.getElem_append_left (by simp)]
        simp [sgC, sg0])
      have hset2 := hset.set_ k 1 (by rw [List.length_set]; omega) (by decide) ⟨t, str8 ((bytes.take e).drop f)⟩ (.string (str8 ((bytes.take e).drop f))) (by
        rw [List.getElem_set_self]
        simp [sgC])
      have hfin : ((List.replicate (k + 1) sg0 ++ wholeD bytes (segs.drop (k + 1))).set k ⟨t, ⟨#[]⟩⟩).set k ⟨t, str8 ((bytes.take e).drop f)⟩ = List.replicate k sg0 ++ wholeD bytes (segs.drop k) := by
        rw [List.set_set, List.replicate_succ', List.append_assoc, List.set_append_right _ _ (by simp), List.length_replicate, Nat.sub_self, hstep]
        rfl
      rw [hfin] at hset2
      have HSET := Lib.hid (hset2.alloc_ (Obj.cells #[.int .u8 t, .int .i64 f] 74))
      have HFK := Lib.hid hfk
      have HBA := Lib.hid hbA
      have heI : (f : Int) ≤ (e : Int) := by omega
      have hemI : (e : Int) ≤ (bytes.length : Int) := by omega
      obtain ⟨_, hlc2, _⟩ := hsh2.lens
      have heC : (e : Int) ≤ (c2 : Int) := by omega
      have s0' : wj.cell? ⟨w.heap.size, k * 2, none⟩ = some (.int .u8 (0 : Nat)) := by
        rw [show sgC.sz = 2 from rfl, Nat.add_zero] at s0
        rw [s0, List.getElem_append_left (by simp)]
        simp [sgC, sg0]
      have s1' : wj.cell? ⟨w.heap.size, k * 2 + 1, none⟩ = some (.string ⟨#[]⟩) := by
        rw [show sgC.sz = 2 from rfl] at s1
        rw [s1, List.getElem_append_left (by simp)]
        simp [sgC, sg0]
      have hcv := hconv.out
      generalize str8 ((bytes.take e).drop f) = S at *
      clear hcl hlen hstep hfe hem hfk hbA hsh2 hcc s0 s1 hfr hset hset2 hfin hO hconv hff
      go_upto_region 7 with fail
      go_region
      all_goals
        go_wp2_with fail
        go_roundw
        case rel => exact ⟨k, by omega, rfl, by rw [HFK.out], HSET.out.keep fun _ _ => rfl, Lib.hid (below_drew1 ((below_set (below_set HB.out (Nat.le_refl _) _) (Nat.le_refl _) _).alloc (by simp; omega) _))⟩
        case measure => simp [intOf] <;> omega

end Go.Proofs.Ytocankfabgjjmaa
