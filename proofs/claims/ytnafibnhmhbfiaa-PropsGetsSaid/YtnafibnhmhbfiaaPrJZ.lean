/-
  The contract of props.Get.
  Conditions: none but sizes.
-/
import Derived.Test.YtnafibnhmhbfiaaPrIZ
namespace Go.Proofs.Ytnafibnhmhbfiaa
open Go.RowKit
set_option linter.unusedVariables false
set_option linter.unusedSimpArgs false

theorem results_cell_tmp {P : Program} {fn : Func} {p u : Tmp} {ty : TypeId} (h : fn.results = #[.cell p ty, .tmp u]) (tmps : Array Value) (w : World) (g : Nat) (t : TypeId) (cs : Array Value) (fr : Nat × Nat) (d : TypeDesc)
    (hp : tmps.getD p undef = .pointer (some ⟨g, 0, none⟩)) (hg : w.heap[g]? = some (.cells cs t fr))
    (hu : P.underlying ty = some d) (hd : (match d with | .struct _ | .array _ _ => true | _ => false) = true) (hi : (P.info? ty).map (·.size) = some cs.size) :
    (results fn tmps).run P w = .ok (.tuple #[.agg cs, tmps.getD u undef]) w := by
  have hp' : tmps[p]?.getD undef = .pointer (some ⟨g, 0, none⟩) := by simpa using hp
  simp [results, h, hp', asAddr, run_loadVar_row w g t ty cs fr d hg hu hd hi]
theorem aft_below {B : Nat} {w w' : World} (hb : Below w.heap.size w w') : Aft B w w' := ⟨hb.size, fun k _ hk => hb.block k hk⟩
theorem Aft.trans {B : Nat} {a b c : World} (h : Aft B a b) (k : Aft B b c) : Aft B a c := ⟨Nat.le_trans h.size k.size, fun i h1 h2 => (k.block i h1 (Nat.lt_of_lt_of_le h2 h.size)).trans (h.block i h1 h2)⟩

theorem get_said_no {l : List UInt8} {w w' : World} {e : Ending} (h : getPr l = none) (hb : Below w.heap.size w w') (he : e = .returned (.tuple #[propV zPr (.int .u8 (0 : Nat)) (.int .u64 (0 : Nat)) (.string ⟨#[]⟩) (.slice none 0 0) (.slice none 0 0), .int .i64 90])) : PGetSaid l w e w' := by
  unfold PGetSaid; rw [h]; exact ⟨hb, he⟩
theorem get_said_ok {l : List UInt8} {p : PropP} {v0 v1 v2 v3 v4 : Value} {w w' : World} {e : Ending} (h : getPr l = some p) (hb : Below w.heap.size w w') (he : e = .returned (.tuple #[propV p v0 v1 v2 v3 v4, .int .i64 0])) (hs : ShowsP (lowm w.heap.size w') p v0 v1 v2 v3 v4) : PGetSaid l w e w' := by
  unfold PGetSaid; rw [h]; exact ⟨hb, v0, v1, v2, v3, v4, he, hs⟩
theorem dec_sizes (l : List UInt8) (hl : l.length ≤ 140737488351232) : (decPr l).key.size ≤ 140737488351232 ∧ (decPr l).id.size ≤ 140737488351232 := by
  have h1 := lenS_next (some l)
  have h2 := lenS_next (nextPr (some l)).2
  have hll : lenS (some l) = l.length := rfl
  have hx : ∀ f b s, (txtR f b s).1.length ≤ lenS s := fun f b s => by
    unfold txtR
    split
    · exact textS_fst_le _ _ _
    · simp
  constructor
  · show (str8 _).size ≤ _
    rw [str8_size]
    exact Nat.le_trans (hx _ _ _) (by omega)
  · show (str8 _).size ≤ _
    rw [str8_size]
    exact Nat.le_trans (hx _ _ _) (by omega)
theorem getPr_yes {l : List UInt8} (h : validPr (decPr l)) (h2 : encPr (decPr l) = l) : getPr l = some (decPr l) := by
  unfold getPr; rw [if_pos ⟨h, h2⟩]
theorem getPr_no {l : List UInt8} (h : ¬ (validPr (decPr l) ∧ encPr (decPr l) = l)) : getPr l = none := by
  unfold getPr; rw [if_neg h]

theorem pcheck_cnt {t : Tree} (h : checkT t = 0) : cntT t ≤ 200 := by
  unfold checkT at h
  split at h
  · cases h
  · split at h
    · cases h
    · omega
theorem appR_cnt (f b : Nat) (s : St) : cntT (appR f b s) ≤ 1000000 := by
  unfold appR
  split
  · cases hg : getP (takeS (lenS s) s).1 with
    | none => simp only []; decide
    | some y =>
      obtain ⟨t, n⟩ := y
      simp only []
      have := pcheck_cnt (put_get hg).1
      omega
  · decide
theorem decPr_cnt (l : List UInt8) : cntT (decPr l).app ≤ 1000000 := appR_cnt _ _ _
theorem errno_ne (e : Nat) (h : e ≠ 0) : ((e : Int) != 0) = true := by simp; omega

set_option maxRecDepth 100000 in
set_option maxHeartbeats 8000000 in
theorem pget_any (s : ByteArray) (w : World) (hs : s.size ≤ 140737488351232) : Calls Try.prog 16 #[.string s] w (PGetSaid (sb s) w) := by
  have hB0 := below_boxV w zbox
  have HD := Lib.hid (p_decoded_any s (w.alloc zbox) hs)
  have hrow := heap_alloc_new w zbox
  have hl : (sb s).length ≤ 140737488351232 := by rw [sb_length]; exact hs
  obtain ⟨hz1, hz2⟩ := dec_sizes (sb s) hl
  have hcnt := decPr_cnt (sb s)
  have hst : s.toList = sb s := sb_toList s
  have HPO := Lib.hid (fun (hv : validPr (decPr (sb s))) v0 v1 v2 v3 v4 w' (h : ShowsP w' (decPr (sb s)) v0 v1 v2 v3 v4) => pput_ok (decPr (sb s)) v0 v1 v2 v3 v4 w' h hcnt hv)
  have HPN := Lib.hid (fun (hv : ¬ validPr (decPr (sb s))) v0 v1 v2 v3 v4 w' (h : ShowsP w' (decPr (sb s)) v0 v1 v2 v3 v4) => pput_no (decPr (sb s)) v0 v1 v2 v3 v4 w' h hcnt hv)
  have HY := Lib.hid (fun (hv : validPr (decPr (sb s))) (he : encPr (decPr (sb s)) = sb s) => getPr_yes hv he)
  have HN := Lib.hid (fun h => getPr_no (l := sb s) h)
  unfold DecSaidP at HD
  have HSZ := Lib.hid (And.intro hz1 hz2)
  have HB0 := Lib.hid hB0
  have HROW := Lib.hid hrow
  have hfin : ∀ (v : Bool), (validPr (decPr (sb s)) ↔ v = true) → True := fun _ _ => trivial
  clear hfin hcnt hz1 hz2 hB0 hrow
  by_cases hv : validPr (decPr (sb s))
  · have HP := Lib.hid (HPO.out hv)
    obtain ⟨eb, heb⟩ : ∃ eb : Bool, eb = ((str8 (encPr (decPr (sb s)))).toList == s.toList) := ⟨_, rfl⟩
    have heq : eb = true ↔ encPr (decPr (sb s)) = sb s := by rw [heb, str8_toList, hst]; simp
    have HEQ := Lib.hid heq
    replace heb := heb.symm
    generalize encPr (decPr (sb s)) = E at *
    generalize decPr (sb s) = p at *
    obtain ⟨key, dur, red, id, app⟩ := p
    unfold propV at HD HP
    simp only [] at HD HP
    clear HPO HPN heq hst
    go_enter Try.func16, Try.ntmps16
    go_wp2_with fail
    refine HD.out.mono ?_
    rintro e w2 ⟨k, n, ss, a3, n3, c3, a4, n4, c4, rfl, hsh2, hb2⟩
    have hA3 := below_boxV w2 (Obj.cells #[.string key, .bool dur, .bool red, .string id, .int .u8 k, .int .u64 n, .string ss, .slice a3 n3 c3, .slice a4 n4 c4] 29)
    have hX3 := BoxPr.new (p := ⟨key, dur, red, id, app⟩) (v0 := .int .u8 k) (v1 := .int .u64 n) (v2 := .string ss) (v3 := .slice a3 n3 c3) (v4 := .slice a4 n4 c4) w2
    have HSH := Lib.hid hsh2
    have HB2 := Lib.hid hb2
    have HA3 := Lib.hid hA3
    have HX3 := Lib.hid hX3
    have HPX := Lib.hid (HP.out _ _ _ _ _ _ ⟨HSZ.out.1, HSZ.out.2, (hsh2.sub (low_out _ _)).kept hA3 (Nat.le_refl _)⟩)
    obtain ⟨⟨e0, e1, e2, e3⟩, e4, e5, e6, e7, e8⟩ := hX3.cells
    simp only [] at e0 e1 e2 e3
    clear hsh2 hb2 hA3 hX3
    go_wp2_with fail
    refine HPX.out.mono ?_
    rintro e w4 ⟨rfl, hb4⟩
    have hrow4 := (hb4.block w.heap.size (by have := HB2.out.size; simp at this ⊢; omega)).trans ((HA3.out.block w.heap.size (by have := HB2.out.size; simp at this; omega)).trans ((HB2.out.block w.heap.size (by simp)).trans HROW.out))
    have hbox4 := HX3.out.kept hb4 (Nat.le_refl _)
    have hbel4 := ((HB0.out.trans (HB2.out.mono HB0.out.size)).trans (HA3.out.mono (by have := HB2.out.size; simp at this; omega))).trans (hb4.mono (by have := HB2.out.size; simp at this ⊢; omega))
    have haft : Aft (w.heap.size + 1) w2 w4 := (aft_below HA3.out).trans (aft_below hb4)
    have hne : w.heap.size ≠ w2.heap.size := by have := HB2.out.size; simp at this; omega
    have HROW4 := Lib.hid hrow4
    have HBOX4 := Lib.hid hbox4
    have HBEL4 := Lib.hid hbel4
    have HAFT := Lib.hid haft
    clear e0 e1 e2 e3 e4 e5 e6 e7 e8 hb4 hrow4 hbox4 hbel4 haft
    obtain ⟨⟨e0, e1, e2, e3⟩, e4, e5, e6, e7, e8⟩ := HBOX4.out.cells
    simp only [] at e0 e1 e2 e3
    have hq : ∀ i, w4.cell? ⟨w.heap.size, i, none⟩ = (#[Value.string ⟨#[]⟩, .bool false, .bool false, .string ⟨#[]⟩, .int .u8 0, .int .u64 0, .string ⟨#[]⟩, .slice none 0 0, .slice none 0 0] : Array Value)[i]? := fun i => cell_of_row w4 w.heap.size i _ 29 (0, 0) HROW4.out
    have q0 := hq 0
    have q1 := hq 1
    have q2 := hq 2
    have q3 := hq 3
    have q4 := hq 4
    have q5 := hq 5
    have q6 := hq 6
    have q7 := hq 7
    have q8 := hq 8
    have fq := fun i => frozen_of_row w4 w.heap.size i _ 29 HROW4.out
    have l0 := fq 0
    have l1 := fq 1
    have l2 := fq 2
    have l3 := fq 3
    have l4 := fq 4
    have l5 := fq 5
    have l6 := fq 6
    have l7 := fq 7
    have l8 := fq 8
    clear hq fq
    cases eb with
    | true =>
      have hs9 := set9_row (.string key) (.bool dur) (.bool red) (.string id) (.int .u8 k) (.int .u64 n) (.string ss) (.slice a3 n3 c3) (.slice a4 n4 c4) HROW4.out
      have hb9 := set9_below HBEL4.out (Nat.le_refl w.heap.size) (.string key) (.bool dur) (.bool red) (.string id) (.int .u8 k) (.int .u64 n) (.string ss) (.slice a3 n3 c3) (.slice a4 n4 c4)
      have ha9 := set9_aft HAFT.out (Nat.lt_succ_self w.heap.size) (.string key) (.bool dur) (.bool red) (.string id) (.int .u8 k) (.int .u64 n) (.string ss) (.slice a3 n3 c3) (.slice a4 n4 c4)
      unfold set9 at hs9 hb9 ha9
      have HS9 := Lib.hid hs9
      have HB9 := Lib.hid hb9
      have HA9 := Lib.hid ha9
      clear hs9 hb9 ha9
      go_wp2_with fail
      refine bodyPost_ret (results_cell_tmp rfl _ _ w.heap.size 29 _ (0, 0) _ rfl HS9.out Try.underlying29 rfl (by kernel_rfl)) rfl ?_
      have hsh := HSH.out
      rw [World.size_alloc] at hsh
      exact get_said_ok (HY.out hv (HEQ.out.1 trivial)) HB9.out rfl ⟨HSZ.out.1, HSZ.out.2, HA9.out.shows hsh (Nat.le_succ _)⟩
    | false =>
      have hs9 := set9_row (.string ⟨#[]⟩) (.bool false) (.bool false) (.string ⟨#[]⟩) (.int .u8 0) (.int .u64 0) (.string ⟨#[]⟩) (.slice none 0 0) (.slice none 0 0) HROW4.out
      have hb9 := set9_below HBEL4.out (Nat.le_refl w.heap.size) (.string ⟨#[]⟩) (.bool false) (.bool false) (.string ⟨#[]⟩) (.int .u8 0) (.int .u64 0) (.string ⟨#[]⟩) (.slice none 0 0) (.slice none 0 0)
      unfold set9 at hs9 hb9
      have HS9 := Lib.hid hs9
      have HB9 := Lib.hid hb9
      clear hs9 hb9
      go_wp2_with fail
      refine bodyPost_ret (results_cell_tmp rfl _ _ w.heap.size 29 _ (0, 0) _ rfl HS9.out Try.underlying29 rfl (by kernel_rfl)) rfl ?_
      exact get_said_no (HN.out (fun h => by have := HEQ.out.2 h.2; cases this)) HB9.out rfl
  · have HP := Lib.hid (HPN.out hv)
    have HNN := Lib.hid (HN.out (fun h => hv h.1))
    generalize decPr (sb s) = p at *
    obtain ⟨key, dur, red, id, app⟩ := p
    unfold propV at HD HP
    simp only [] at HD HP
    clear HPO HPN hst HN HY
    go_enter Try.func16, Try.ntmps16
    go_wp2_with fail
    refine HD.out.mono ?_
    rintro e w2 ⟨k, n, ss, a3, n3, c3, a4, n4, c4, rfl, hsh2, hb2⟩
    have hA3 := below_boxV w2 (Obj.cells #[.string key, .bool dur, .bool red, .string id, .int .u8 k, .int .u64 n, .string ss, .slice a3 n3 c3, .slice a4 n4 c4] 29)
    have hX3 := BoxPr.new (p := ⟨key, dur, red, id, app⟩) (v0 := .int .u8 k) (v1 := .int .u64 n) (v2 := .string ss) (v3 := .slice a3 n3 c3) (v4 := .slice a4 n4 c4) w2
    have HB2 := Lib.hid hb2
    have HA3 := Lib.hid hA3
    have HPX := Lib.hid (HP.out _ _ _ _ _ _ ⟨HSZ.out.1, HSZ.out.2, (hsh2.sub (low_out _ _)).kept hA3 (Nat.le_refl _)⟩)
    obtain ⟨⟨e0, e1, e2, e3⟩, e4, e5, e6, e7, e8⟩ := hX3.cells
    simp only [] at e0 e1 e2 e3
    clear hsh2 hb2 hA3 hX3
    go_wp2_with fail
    refine HPX.out.mono ?_
    rintro e w4 ⟨rfl, hb4⟩
    have hrow4 := (hb4.block w.heap.size (by have := HB2.out.size; simp at this ⊢; omega)).trans ((HA3.out.block w.heap.size (by have := HB2.out.size; simp at this; omega)).trans ((HB2.out.block w.heap.size (by simp)).trans HROW.out))
    have hbel4 := ((HB0.out.trans (HB2.out.mono HB0.out.size)).trans (HA3.out.mono (by have := HB2.out.size; simp at this; omega))).trans (hb4.mono (by have := HB2.out.size; simp at this ⊢; omega))
    have HROW4 := Lib.hid hrow4
    have HBEL4 := Lib.hid hbel4
    clear e0 e1 e2 e3 e4 e5 e6 e7 e8 hb4 hrow4 hbel4
    have hq : ∀ i, w4.cell? ⟨w.heap.size, i, none⟩ = (#[Value.string ⟨#[]⟩, .bool false, .bool false, .string ⟨#[]⟩, .int .u8 0, .int .u64 0, .string ⟨#[]⟩, .slice none 0 0, .slice none 0 0] : Array Value)[i]? := fun i => cell_of_row w4 w.heap.size i _ 29 (0, 0) HROW4.out
    have q0 := hq 0
    have q1 := hq 1
    have q2 := hq 2
    have q3 := hq 3
    have q4 := hq 4
    have q5 := hq 5
    have q6 := hq 6
    have q7 := hq 7
    have q8 := hq 8
    have fq := fun i => frozen_of_row w4 w.heap.size i _ 29 HROW4.out
    have l0 := fq 0
    have l1 := fq 1
    have l2 := fq 2
    have l3 := fq 3
    have l4 := fq 4
    have l5 := fq 5
    have l6 := fq 6
    have l7 := fq 7
    have l8 := fq 8
    clear hq fq
    have hs9 := set9_row (.string ⟨#[]⟩) (.bool false) (.bool false) (.string ⟨#[]⟩) (.int .u8 0) (.int .u64 0) (.string ⟨#[]⟩) (.slice none 0 0) (.slice none 0 0) HROW4.out
    have hb9 := set9_below HBEL4.out (Nat.le_refl w.heap.size) (.string ⟨#[]⟩) (.bool false) (.bool false) (.string ⟨#[]⟩) (.int .u8 0) (.int .u64 0) (.string ⟨#[]⟩) (.slice none 0 0) (.slice none 0 0)
    unfold set9 at hs9 hb9
    have HS9 := Lib.hid hs9
    have HB9 := Lib.hid hb9
    clear hs9 hb9
    go_wp2_with fail
    refine bodyPost_ret (results_cell_tmp rfl _ _ w.heap.size 29 _ (0, 0) _ rfl HS9.out Try.underlying29 rfl (by kernel_rfl)) rfl ?_
    exact get_said_no HNN.out HB9.out rfl

end Go.Proofs.Ytnafibnhmhbfiaa
