/-
  The contracts of parsed and Parse of xid.
  Conditions: at most 2^47 bytes.
-/
import Derived.Test.YtalcfglcbpkebaaDoorXiK
namespace Go.Proofs.YtalcfglcbpkebaaDoor
open Go.RowKit
set_option linter.unusedVariables false
set_option linter.unusedSimpArgs false

/-- Reading byte after byte. -/
def foldR (t : RSt) : List UInt8 → Option RSt
  | [] => some t
  | c :: l => (stepR t c.toNat).bind fun t' => foldR t' l
theorem foldR_append : ∀ (a b : List UInt8) (t : RSt), foldR t (a ++ b) = (foldR t a).bind fun t' => foldR t' b
  | [], _, _ => rfl
  | c :: a, b, t => by
    simp only [List.cons_append, foldR]
    cases stepR t c.toNat with
    | none => rfl
    | some t' => exact foldR_append a b t'
theorem foldR_snoc (a : List UInt8) (c : UInt8) (t : RSt) : foldR t (a ++ [c]) = (foldR t a).bind fun t' => stepR t' c.toNat := by
  rw [foldR_append]
  congr 1
  funext t'
  simp only [foldR]
  cases stepR t' c.toNat <;> rfl
def st0 : RSt := ⟨0, 0, 0, 0, [], []⟩
theorem ok0 : OKR st0 := ⟨by decide, by decide, by decide, by decide⟩
/-- The name whose text is l, or the zero name. -/
def parsedD (l : List UInt8) : Nat × List UInt8 × List UInt8 :=
  match foldR st0 l with
  | none => (0, [], [])
  | some t => if t.p = 2 ∧ halfB t.p t.s = false then (t.f, t.g, t.b) else (0, [], [])

theorem stepR_high {t : RSt} {r : Nat} (hr : 128 ≤ r) : stepR t r = none := by
  unfold stepR
  rw [if_neg (by omega)]
  by_cases h0 : t.p = 0
  · rw [if_pos h0, if_pos (.inl (by omega))]
  · rw [if_neg h0, if_pos]
    unfold numD
    rw [if_neg (by omega), if_neg (by omega)]
    omega
theorem stepR_s {t t' : RSt} {r : Nat} (h : stepR t r = some t') : t'.s ≤ t.s + 1 ∧ t'.p ≤ t.p + 1 := by
  unfold stepR at h
  repeat' split at h
  all_goals first
    | (cases h; done)
    | (simp only [Option.some.injEq] at h; subst h; simp)

theorem RdS.iter {w w' : World} {b base mid it : Nat} {t : RSt} {gv bv : Value} (hR : RdS w b base t gv bv mid) (hk : ∀ k, k ≠ it → w'.heap[k]? = w.heap[k]?) (hs : w'.heap.size = w.heap.size) (h1 : it < base) (h2 : it ≠ b) : RdS w' b base t gv bv mid :=
  { rd := hR.rd.keep (hk _ (Ne.symm h2)), og := own_frm hR.og (fun g hg _ => hk g (by omega)), ob := own_frm hR.ob (fun g hg _ => hk g (by have := hR.lo; omega)), hb := hR.hb, lo := hR.lo, hi := by rw [hs]; exact hR.hi, apart := hR.apart, none_ := hR.none_ }

theorem parsed_none (s : ByteArray) (pos : Nat) (h : pos < s.size) (t : RSt) (hf : foldR st0 ((sb s).take pos) = some t) (hn : stepR t (s[pos]'h).toNat = none) : parsedD (sb s) = (0, [], []) := by
  have h' : pos < (sb s).length := by rw [sb_length]; exact h
  have e : foldR st0 (sb s) = none := by
    rw [← List.take_append_drop pos (sb s), sb_drop s pos h, foldR_append, hf]
    show foldR t ((s[pos]'h) :: (sb s).drop (pos + 1)) = none
    rw [foldR, hn]
    rfl
  unfold parsedD
  rw [e]

theorem st0_rd (s : ByteArray) (w : World) : RdS (((w.alloc (Obj.cells #[.int .u32 (0 : Nat), .string ⟨#[]⟩, .string ⟨#[]⟩] 24)).alloc (Obj.cells #[.int .i64 (0 : Nat), .int .i64 (0 : Nat), .int .u64 (0 : Nat), .int .u8 (0 : Nat), .slice none 0 0, .slice none 0 0] 93)).alloc (.stringIter s 0)) (w.heap.size + 1) (w.heap.size + 3) st0 (.slice none 0 0) (.slice none 0 0) (w.heap.size + 3) := by
  refine { rd := ?_, og := Own.nil_ _ _ _, ob := Own.nil_ _ _ _, hb := by omega, lo := Nat.le_refl _, hi := by simp, apart := fun x hx => by simp [Value.ownBlock] at hx, none_ := fun _ => ⟨rfl, rfl⟩ }
  have h1 := heap_alloc_new (w.alloc (Obj.cells #[.int .u32 (0 : Nat), .string ⟨#[]⟩, .string ⟨#[]⟩] 24)) (Obj.cells #[.int .i64 (0 : Nat), .int .i64 (0 : Nat), .int .u64 (0 : Nat), .int .u8 (0 : Nat), .slice none 0 0, .slice none 0 0] 93)
  have h2 : (w.alloc (Obj.cells #[.int .u32 (0 : Nat), .string ⟨#[]⟩, .string ⟨#[]⟩] 24)).heap.size = w.heap.size + 1 := by simp
  rw [h2] at h1
  exact (Below.heap_alloc _ _ _ (by simp)).trans h1

set_option maxRecDepth 100000 in
set_option maxHeartbeats 2000000 in
theorem parsed_any (s : ByteArray) (w : World) (hs : s.size ≤ 140737488351232) :
    Calls Tryd.prog 47 #[.string s] w fun e w' => e = .returned (xidV (parsedD (sb s)).1 (str8 (parsedD (sb s)).2.1) (str8 (parsedD (sb s)).2.2)) ∧ Below w.heap.size w w' := by
  have hR0 := st0_rd s w
  have hX0 : Boxed (((w.alloc (Obj.cells #[.int .u32 (0 : Nat), .string ⟨#[]⟩, .string ⟨#[]⟩] 24)).alloc (Obj.cells #[.int .i64 (0 : Nat), .int .i64 (0 : Nat), .int .u64 (0 : Nat), .int .u8 (0 : Nat), .slice none 0 0, .slice none 0 0] 93)).alloc (.stringIter s 0)) w.heap.size 0 ⟨#[]⟩ ⟨#[]⟩ :=
    ((Boxed.new w).keep (Below.heap_alloc _ _ _ (by simp))).keep (Below.heap_alloc _ _ _ (by simp; omega))
  have hI0 : (((w.alloc (Obj.cells #[.int .u32 (0 : Nat), .string ⟨#[]⟩, .string ⟨#[]⟩] 24)).alloc (Obj.cells #[.int .i64 (0 : Nat), .int .i64 (0 : Nat), .int .u64 (0 : Nat), .int .u8 (0 : Nat), .slice none 0 0, .slice none 0 0] 93)).alloc (.stringIter s 0)).heap[w.heap.size + 2]? = some (.stringIter s 0) := by
    have h1 := heap_alloc_new ((w.alloc (Obj.cells #[.int .u32 (0 : Nat), .string ⟨#[]⟩, .string ⟨#[]⟩] 24)).alloc (Obj.cells #[.int .i64 (0 : Nat), .int .i64 (0 : Nat), .int .u64 (0 : Nat), .int .u8 (0 : Nat), .slice none 0 0, .slice none 0 0] 93)) (.stringIter s 0)
    simpa using h1
  have hB0 : Below w.heap.size w (((w.alloc (Obj.cells #[.int .u32 (0 : Nat), .string ⟨#[]⟩, .string ⟨#[]⟩] 24)).alloc (Obj.cells #[.int .i64 (0 : Nat), .int .i64 (0 : Nat), .int .u64 (0 : Nat), .int .u8 (0 : Nat), .slice none 0 0, .slice none 0 0] 93)).alloc (.stringIter s 0)) :=
    (below_box2 w _ _).alloc (by simp; omega) _
  have H0 := Lib.hid (And.intro hR0 (And.intro hX0 (And.intro hI0 hB0)))
  clear hR0 hX0 hI0 hB0
  obtain ⟨D, hD⟩ : ∃ D, D = parsedD (sb s) := ⟨_, rfl⟩
  rw [← hD]
  have HD := Lib.hid hD
  clear hD
  go_enter Tryd.func47, Tryd.ntmps47
  go_wp2_with fail
  go_loopw [5] (fun u wr => ∃ (pos : Nat) (t : RSt) (gv bv : Value) (mid : Nat), pos ≤ s.size ∧ wr.heap[w.heap.size + 2]? = some (.stringIter s pos) ∧ RdS wr (w.heap.size + 1) (w.heap.size + 3) t gv bv mid ∧ Boxed wr w.heap.size 0 ⟨#[]⟩ ⟨#[]⟩ ∧ foldR st0 ((sb s).take pos) = some t ∧ OKR t ∧ t.s ≤ pos ∧ t.p ≤ pos ∧ Below w.heap.size w wr) (fun _ wr => s.size - wr.iterPos (w.heap.size + 2))
  case atStart => exact ⟨0, st0, .slice none 0 0, .slice none 0 0, w.heap.size + 3, by omega, H0.out.2.2.1, H0.out.1, H0.out.2.1, by simp [foldR], ok0, Nat.le_refl _, Nat.le_refl _, H0.out.2.2.2⟩
  case round =>
    obtain ⟨pos, t, gv, bv, mid, hp, hit, hR, hX, hf, ho, hts, htp, hbw⟩ := hrel
    by_cases hlt : pos < s.size
    · have hwd : ∀ pos', Frm (w.heap.size + 2) (w.heap.size + 2) wr (wr.iterAt (w.heap.size + 2) s pos') := fun pos' => ⟨rfl, rfl, rfl, by rw [Lib.iterAt_size]; exact Nat.le_refl _, fun k hk _ => Lib.iterAt_other wr _ k s pos' (by omega)⟩
      have hRW : ∀ pos', RdS (wr.iterAt (w.heap.size + 2) s pos') (w.heap.size + 1) (w.heap.size + 3) t gv bv mid := fun pos' => hR.iter (fun k hk => Lib.iterAt_other wr _ k s pos' hk) (Lib.iterAt_size _ _ _ _) (by omega) (by omega)
      have hXW : ∀ pos', Boxed (wr.iterAt (w.heap.size + 2) s pos') w.heap.size 0 ⟨#[]⟩ ⟨#[]⟩ := fun pos' => hX.keep (Lib.iterAt_other wr _ _ s pos' (by omega))
      have hIW : ∀ pos', (wr.iterAt (w.heap.size + 2) s pos').heap[w.heap.size + 2]? = some (.stringIter s pos') := fun pos' => Lib.iterAt_heap wr _ s pos pos' hit
      have hbW : ∀ pos', Below w.heap.size w (wr.iterAt (w.heap.size + 2) s pos') := fun pos' => Lib.below_iterAt hbw (by omega) s pos'
      by_cases hc : (s[pos]'hlt).toNat < 128 ∧ (stepR t (s[pos]'hlt).toNat).isSome
      · obtain ⟨hc1, hc2⟩ := hc
        obtain ⟨t', ht'⟩ := Option.isSome_iff_exists.1 hc2
        have hnx : ∀ ty, (Instr.next (.pointer (some ⟨w.heap.size + 2, 0, none⟩)) true ty).run Tryd.prog wr = _ := fun ty => Lib.run_next_ascii_at wr (w.heap.size + 2) s pos ty hit hlt hc1
        have HT := Lib.hid (take_yes (hRW (pos + 1)) ho (by omega) (by omega) (by omega) ht')
        have HS := Lib.hid (stepR_s ht')
        have HO := Lib.hid (ho.step ht')
        have HF := Lib.hid (show foldR st0 ((sb s).take (pos + 1)) = some t' by
          rw [List.take_succ_eq_append_getElem (by rw [sb_length]; exact hlt), foldR_snoc, hf]
          exact ht')
        have HX := Lib.hid (hXW (pos + 1))
        have HI := Lib.hid (hIW (pos + 1))
        have HB := Lib.hid (hbW (pos + 1))
        have HIT := Lib.hid hit
        clear hf ht' hc2 hXW hIW hbW hRW hwd hX hR hit
        go_wp2_with fail
        refine HT.out.mono ?_
        rintro e w2 ⟨rfl, gv', bv', mid', hR', hfr⟩
        go_wp2_with fail
        have hit2 : w2.heap[w.heap.size + 2]? = some (.stringIter s (pos + 1)) := (hfr.block _ (by omega) (by omega)).trans HI.out
        go_roundw
        case rel => exact ⟨pos + 1, t', gv', bv', mid', by omega, hit2, hR', HX.out.keep (hfr.block _ (by omega) (by omega)), HF.out, HO.out, by have := HS.out; omega, by have := HS.out; omega, HB.out.trans ((hfr.below (by omega)).mono (by omega))⟩
        case measure =>
          have e1 : wr.iterPos (w.heap.size + 2) = pos := by simp [World.iterPos, HIT.out]
          have e2 : w2.iterPos (w.heap.size + 2) = pos + 1 := by simp [World.iterPos, hit2]
          rw [e1, e2]
          omega
      · obtain ⟨r, pos', hr1, hr2, hr3⟩ : ∃ r pos', stepR t r = none ∧ r ≤ 2147483647 ∧ ∀ ty, (Instr.next (.pointer (some ⟨w.heap.size + 2, 0, none⟩)) true ty).run Tryd.prog wr = .ok (.tuple #[.bool true, .int .i64 pos, .int .i32 r]) (wr.iterAt (w.heap.size + 2) s pos') := by
          by_cases h128 : (s[pos]'hlt).toNat < 128
          · refine ⟨(s[pos]'hlt).toNat, pos + 1, ?_, by omega, fun ty => Lib.run_next_ascii_at wr (w.heap.size + 2) s pos ty hit hlt h128⟩
            cases hst : stepR t (s[pos]'hlt).toNat with
            | none => rfl
            | some t' => exact absurd ⟨h128, by rw [hst]; rfl⟩ hc
          · exact ⟨_, _, stepR_high (decode_high s pos hlt (by omega)).1, decode_le s pos, fun ty => Lib.run_next_any_at wr (w.heap.size + 2) s pos ty hit hlt⟩
        have HZ := Lib.hid (parsed_none s pos hlt t hf (by
          by_cases h128 : (s[pos]'hlt).toNat < 128
          · cases hst : stepR t (s[pos]'hlt).toNat with
            | none => rfl
            | some t' => exact absurd ⟨h128, by rw [hst]; rfl⟩ hc
          · exact stepR_high (by omega)))
        have HT := Lib.hid (take_no (hRW pos') ho hr2 (by omega) (by omega) hr1)
        have hXW := hXW pos'
        have hbW := hbW pos'
        generalize wr.iterAt (w.heap.size + 2) s pos' = W at *
        clear hf hc hIW hRW hwd hit hr1
        go_wp2_with fail
        refine HT.out.mono ?_
        rintro e w2 ⟨rfl, hfr⟩
        have hX2 : Boxed w2 w.heap.size 0 ⟨#[]⟩ ⟨#[]⟩ := hXW.keep (hfr.block _ (by omega) (by omega))
        have hw2 : Below w.heap.size w w2 := hbW.trans ((hfr.below (by omega)).mono (by omega))
        have x0 := hX2.c0
        have x1 := hX2.c1
        have x2 := hX2.c2
        have f0 := hX2.froz 0
        have f1 := hX2.froz 1
        have f2 := hX2.froz 2
        have r5 := heap_setCell_same w2 w.heap.size 0 _ 24 (.int .u32 0) hX2
        have r6 := heap_setCell_same _ w.heap.size 1 _ 24 (.string ⟨#[]⟩) r5
        have r7 := heap_setCell_same _ w.heap.size 2 _ 24 (.string ⟨#[]⟩) r6
        have HR := Lib.hid r7
        clear r5 r6 r7 hX2 hXW hX hR hfr
        go_wp2_with fail
        (try simp only [Exit.inBlock, Exit.then])
        refine bodyPost_ret (results_cell1 rfl _ _ w.heap.size 24 _ (0, 0) _ rfl HR.out Tryd.underlying24 rfl (by kernel_rfl)) rfl ⟨by rw [HD.out, HZ.out]; rfl, below_set (below_set (below_set hw2 (Nat.le_refl _) _) (Nat.le_refl _) _) (Nat.le_refl _) _⟩
    · obtain rfl : pos = s.size := by omega
      rw [List.take_of_length_le (by rw [sb_length]; exact Nat.le_refl _)] at hf
      have hnx : ∀ ty, (Instr.next (.pointer (some ⟨w.heap.size + 2, 0, none⟩)) true ty).run Tryd.prog wr = _ := fun ty => Lib.run_next_end_at wr (w.heap.size + 2) s _ ty hit (by omega)
      have hname : Calls Tryd.prog 65 #[.pointer (some ⟨w.heap.size + 1, 0, none⟩)] wr fun e w' => e = .returned (.agg #[.int .u32 D.1, .string (str8 D.2.1), .string (str8 D.2.2)]) ∧ Below wr.heap.size wr w' := by
        have hDe : D = if t.p = 2 ∧ halfB t.p t.s = false then (t.f, t.g, t.b) else (0, [], []) := by
          rw [HD.out]; unfold parsedD; rw [hf]
        by_cases hc : t.p = 2 ∧ halfB t.p t.s = false
        · rw [if_pos hc] at hDe
          rw [hDe]
          exact name_yes hR ho (by omega) hc.1 hc.2
        · rw [if_neg hc] at hDe
          rw [hDe]
          refine name_no hR.rd (by omega) ?_
          by_cases h2 : t.p = 2
          · right
            simpa [h2] using hc
          · exact .inl h2
      have HN := Lib.hid hname
      clear hname hf ho hts htp hit
      go_wp2_with fail
      refine HN.out.mono ?_
      rintro e w2 ⟨rfl, hb2⟩
      have hX2 : Boxed w2 w.heap.size 0 ⟨#[]⟩ ⟨#[]⟩ := hX.below hb2 (by have := hR.rd.lt; omega)
      have hw2 : Below w.heap.size w w2 := hbw.trans (hb2.mono (by have := hR.rd.lt; omega))
      have x0 := hX2.c0
      have x1 := hX2.c1
      have x2 := hX2.c2
      have f0 := hX2.froz 0
      have f1 := hX2.froz 1
      have f2 := hX2.froz 2
      have r5 := heap_setCell_same w2 w.heap.size 0 _ 24 (.int .u32 D.1) hX2
      have r6 := heap_setCell_same _ w.heap.size 1 _ 24 (.string (str8 D.2.1)) r5
      have r7 := heap_setCell_same _ w.heap.size 2 _ 24 (.string (str8 D.2.2)) r6
      have HR := Lib.hid r7
      clear r5 r6 r7 hX2 hX hR hb2
      go_wp2_with fail
      (try simp only [Exit.inBlock, Exit.then])
      refine bodyPost_ret (results_cell1 rfl _ _ w.heap.size 24 _ (0, 0) _ rfl HR.out Tryd.underlying24 rfl (by kernel_rfl)) rfl ⟨rfl, below_set (below_set (below_set hw2 (Nat.le_refl _) _) (Nat.le_refl _) _) (Nat.le_refl _) _⟩

end Go.Proofs.YtalcfglcbpkebaaDoor
