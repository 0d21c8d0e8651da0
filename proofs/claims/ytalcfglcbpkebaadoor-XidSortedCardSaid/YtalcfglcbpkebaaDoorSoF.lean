/-
  The contract of xid's Sorted.
  Conditions: none but sizes.
-/
import Derived.Test.YtalcfglcbpkebaaDoorSoE
import Derived.Test.YtalcfglcbpkebaaDoorRef04D
namespace Go.Proofs.YtalcfglcbpkebaaDoor
open Go.RowKit
set_option linter.unusedVariables false
set_option linter.unusedSimpArgs false

theorem check_any (x : XV) (hx : xOK x) (w : World) : Calls Tryd.prog 11 #[.agg #[.int .u32 (x.1 : Nat), .string x.2.1, .string x.2.2]] w fun e w' => e = .returned (.int .i64 (if okV x then 0 else 40)) ∧ Below w.heap.size w w' := by
  obtain ⟨h1, h2, h3⟩ := hx
  unfold okV
  by_cases hm : mayX x.2.1 x.2.2
  · simp only [hm, decide_true, if_true]
    exact check_ok _ _ _ w hm
  · simp only [hm, decide_false]
    exact check_no _ _ _ w hm (by omega) (by omega)
theorem sorted_eq (l : List XV) : dedupD (sortedV (l.filter okV)) = sortD cmpV okV l := sort_dedup cmpV_is okV l _ (sortedV_perm _) (sortedV_up _)

set_option maxRecDepth 100000 in
set_option maxHeartbeats 8000000 in
theorem sorted_any (A : Option Addr) (c n d : Nat) (l : List XV) (w : World) (hn : l.length = n) (hl : ShowsG xidC w d (.slice A n c) l) (hu : ∀ x ∈ l, xOK x) (hb : n ≤ 1000) :
    Calls Tryd.prog 25 #[.slice A n c] w fun e w' => ∃ v, e = .returned v ∧ OwnG xidC 24 w' w.heap.size v (sortD cmpV okV l) ∧ Below w.heap.size w w' := by
  go_enter Tryd.func25, Tryd.ntmps25
  go_wp2_with fail
  go_loopw [3, 5, 8] (fun out _ i wr => ∃ k : Nat, k ≤ n ∧ i = .int .i64 k ∧ OwnG xidC 24 wr w.heap.size out ((l.take k).filter okV) ∧ Below w.heap.size w wr) (fun _ _ i _ => n - (intOf i).toNat)
  case atStart => exact ⟨0, by omega, rfl, by simpa using OwnG.nil_ _ _ _ _, Below.refl _ _⟩
  case round =>
    obtain ⟨k, hk, rfl, ho, hbw⟩ := hrel
    rename World => wo
    by_cases hlt : k < n
    · have hkl : k < l.length := by omega
      obtain ⟨o, rfl, hdw, hcl0⟩ := (hl.below' hbw (Nat.le_refl _)).at_ (by omega)
      obtain ⟨x, hx⟩ : ∃ x, x = l[k] := ⟨_, rfl⟩
      have hxl : x ∈ l := by rw [hx]; exact List.getElem_mem hkl
      have hst : (l.take (k + 1)).filter okV = (l.take k).filter okV ++ [x].filter okV := by rw [List.take_succ_eq_append_getElem hkl, List.filter_append, hx]
      have hrl : ((l.take k).filter okV).length ≤ k := Nat.le_trans (List.length_filter_le _ _) (by rw [List.length_take]; omega)
      generalize (l.take k).filter okV = r at *
      have hch := Lib.hid (fun w => check_any x (hu x hxl) w)
      have e0 := xid_cell0 hcl0 hkl
      have e1 := xid_cell1 hcl0 hkl
      have e2 := xid_cell2 hcl0 hkl
      rw [← hx] at e0 e1 e2
      clear hx hcl0
      have hkn : (k : Int) < (n : Int) := by omega
      cases hok : okV x with
      | false =>
        have hst2 : (l.take (k + 1)).filter okV = r := by rw [hst]; simp [hok]
        rw [hok] at hch
        simp only [Bool.false_eq_true, if_false] at hch
        have HST := Lib.hid hst2
        clear hst hst2
        obtain ⟨f, g, h⟩ := x
        dsimp only at *
        go_wp2_with fail
        have hX := Boxed.new (f := f) (g := g) (h := h) wo
        have hoc := ho.alloc_ (Obj.cells #[.int .u32 f, .string g, .string h] 24)
        have hbc := hbw.alloc hbw.size (Obj.cells #[.int .u32 f, .string g, .string h] 24)
        generalize wo.alloc (Obj.cells #[.int .u32 f, .string g, .string h] 24) = wc at *
        refine (hch.out _).mono ?_
        rintro e wb ⟨rfl, hbb⟩
        have hX2 := hX.below hbb hX.lt
        have hob := hoc.below hbb (Nat.le_refl _)
        have hbo := hbc.trans (hbb.mono hbc.size)
        have k0 := hX2.c0
        have k1 := hX2.c1
        have k2 := hX2.c2
        clear e0 e1 e2 hch hX ho hoc hbw hbc hbb
        go_wp2_with fail
        go_roundw
        case rel => exact ⟨k + 1, by omega, by go_num, by rw [HST.out]; exact hob, hbo⟩
        case measure => simp [intOf]; omega
      | true =>
        have hst2 : (l.take (k + 1)).filter okV = r ++ [x] := by rw [hst]; simp [hok]
        rw [hok] at hch
        simp only [if_true] at hch
        have HST := Lib.hid hst2
        clear hst hst2
        obtain ⟨f, g, h⟩ := x
        dsimp only at *
        go_wp2_with fail
        have hX := Boxed.new (f := f) (g := g) (h := h) wo
        have hoc := ho.alloc_ (Obj.cells #[.int .u32 f, .string g, .string h] 24)
        have hbc := hbw.alloc hbw.size (Obj.cells #[.int .u32 f, .string g, .string h] 24)
        generalize wo.alloc (Obj.cells #[.int .u32 f, .string g, .string h] 24) = wc at *
        refine (hch.out _).mono ?_
        rintro e wb ⟨rfl, hbb⟩
        have hX2 := hX.below hbb hX.lt
        have hob := hoc.below hbb (Nat.le_refl _)
        have hbo := hbc.trans (hbb.mono hbc.size)
        have k0 := hX2.c0
        have k1 := hX2.c1
        have k2 := hX2.c2
        clear e0 e1 e2 hch hX ho hoc hbw hbc hbb
        obtain ⟨Ar, cr, rfl, hcr, hcm⟩ := hob.form
        go_wp2_with (first
          | (at_builtin
             refine wpList_appendG xidC _ rfl (.tmp 15) (.tmp 17) 51 rfl w.heap.size 24 (.agg #[.int .u32 0, .string ⟨#[]⟩, .string ⟨#[]⟩]) 40 Tryd.underlying51 infoXid rfl _ r rfl (hob.alloc_ _) wb.heap.size (.slice (some ⟨wb.heap.size, 0, none⟩) 1 1) [(f, g, h)] rfl (ShowsG.lit (C := xidC) [(f, g, h)] (by simp [Code.all, xidC]) (by simp [maxLen])) (by simp; omega) (by simp; omega) (by have := hbo.size; simp; omega) ?_
             intro v5 w5 ho5 hg5
             have hb5 : Below w.heap.size w w5 := (hbo.alloc hbo.size _).grown hg5 (by have := hbo.size; simp; omega) (fun q hq => (hob.block q hq).1)))
        go_roundw
        case rel => exact ⟨k + 1, by omega, by go_num, by rw [HST.out]; exact ho5, hb5⟩
        case measure => simp [intOf]; omega
    · rw [show k = n by omega, show l.take n = l from List.take_of_length_le (by omega)] at ho
      have hrl : (l.filter okV).length ≤ n := Nat.le_trans (List.length_filter_le _ _) (by omega)
      have HS := Lib.hid (sorted_eq l)
      generalize l.filter okV = r at *
      obtain ⟨Ar, cr, rfl, hcr, hcm⟩ := ho.form
      have C49 := Lib.hid (fun w' (h : OwnG xidC 24 w' w.heap.size (.slice Ar r.length cr) r) (hb' : w.heap.size ≤ w'.heap.size) => sort_any Ar cr r.length w.heap.size r w' h (by omega) hb')
      have hl2 := sortedV_length r
      have C50 := Lib.hid (fun w' (h : OwnG xidC 24 w' w.heap.size (.slice Ar r.length cr) (sortedV r)) (hb' : w.heap.size ≤ w'.heap.size) => compact_any Ar cr r.length w.heap.size (sortedV r) w' h (by omega) hb')
      clear hl2
      go_wp2_with fail
      refine (C49.out _ ho hbw.size).mono ?_
      rintro e w1 ⟨rfl, ho1, hb1⟩
      have hbw1 := hbw.trans hb1
      go_wp2_with fail
      refine (C50.out _ ho1 hbw1.size).mono ?_
      rintro e w2 ⟨v, rfl, ho2, hb2⟩
      go_wp2_with fail
      go_ret
      exact ⟨_, rfl, by rw [← HS.out]; exact ho2, hbw1.trans hb2⟩

end Go.Proofs.YtalcfglcbpkebaaDoor
