/-
  The contract of strings.IndexRune at a text of ASCII signs, and of what it calls.
  Conditions: the text has at least four and at most a thousand signs, each below 128.
-/
import Derived.Test.YtalcfglcbpkebaaDoorP
import Derived.BigQuiet
import Derived.Laws.Runes
import Derived.Laws.RangeAny
import Derived.Lib.Bytealg
import Derived.Deep.QuietTactic
import Derived.WalkMore
namespace Go.Proofs.YtalcfglcbpkebaaDoor
open Go.RowKit
set_option linter.unusedVariables false
set_option linter.unusedSimpArgs false

set_option maxRecDepth 100000 in
theorem ib1 (s : ByteArray) (c : Int) (w : World) : Calls Tryd.prog 106 #[.string s, .int .u8 c] w fun e w' => e = .returned (.int .i64 (Lib.indexByte (sb s) c.toNat.toUInt8)) ∧ w = w' := by
  go_enter Tryd.func106, Tryd.ntmps106
  go_wp2
  rw [run_callFunc_extern Tryd.func107 (by kernel_rfl) (by kernel_rfl) (by kernel_rfl) (e := Extern.BytealgIndexByte.indexByte) (by kernel_rfl), Lib.run_indexByteString]
  simp only [Result.andThen]
  rw [Oper.upon_value]
  go_wp2
  go_ret
  exact ⟨rfl, rfl⟩
theorem indexByte_any (s : ByteArray) (c : Int) (w : World) : Calls Tryd.prog 101 #[.string s, .int .u8 c] w fun e w' => e = .returned (.int .i64 (Lib.indexByte (sb s) c.toNat.toUInt8)) ∧ w = w' := by
  have h := fun w => ib1 s c w
  generalize Lib.indexByte (sb s) c.toNat.toUInt8 = r at *
  go_enter Tryd.func101, Tryd.ntmps101
  go_wp2_with (go_at_call 106; refine (h _).mono ?_; rintro e w' ⟨rfl, rfl⟩)
  go_ret
  exact ⟨rfl, rfl⟩

theorem validRune_any (r : Nat) (w : World) : Calls Tryd.prog 102 #[.int .i32 r] w fun e w' => e = .returned (.bool (Utf8.valid r)) ∧ w = w' := by
  rw [validRune_eq]
  unfold validRune
  have h0 : (0 : Int) ≤ (r : Int) := by omega
  by_cases h1 : (r : Int) < 55296
  · have t : decide ((0 ≤ (r : Int) ∧ (r : Int) < 55296) ∨ (57343 < (r : Int) ∧ (r : Int) ≤ 1114111)) = true := by simp; omega
    have HT := Lib.hid t
    clear t
    go_enter Tryd.func102, Tryd.ntmps102
    go_wp2_with fail
    go_ret
    exact ⟨by rw [HT.out]; rfl, rfl⟩
  · have e1 : decide ((r : Int) < 55296) = false := by simpa using h1
    by_cases h2 : 57343 < (r : Int)
    · by_cases h3 : (r : Int) ≤ 1114111
      · have HT := Lib.hid (show decide ((0 ≤ (r : Int) ∧ (r : Int) < 55296) ∨ (57343 < (r : Int) ∧ (r : Int) ≤ 1114111)) = true by simp; omega)
        clear h1
        go_enter Tryd.func102, Tryd.ntmps102
        go_wp2_with fail
        go_ret
        exact ⟨by rw [HT.out]; rfl, rfl⟩
      · have HT := Lib.hid (show decide ((0 ≤ (r : Int) ∧ (r : Int) < 55296) ∨ (57343 < (r : Int) ∧ (r : Int) ≤ 1114111)) = false by simp; omega)
        have e2 : decide ((r : Int) ≤ 1114111) = false := by simpa using h3
        clear h1 h3
        go_enter Tryd.func102, Tryd.ntmps102
        go_wp2_with fail
        go_ret
        exact ⟨by rw [HT.out]; rfl, rfl⟩
    · have HT := Lib.hid (show decide ((0 ≤ (r : Int) ∧ (r : Int) < 55296) ∨ (57343 < (r : Int) ∧ (r : Int) ≤ 1114111)) = false by simp; omega)
      have e2 : decide (57343 < (r : Int)) = false := by simpa using h2
      clear h1 h2
      go_enter Tryd.func102, Tryd.ntmps102
      go_wp2_with fail
      go_ret
      exact ⟨by rw [HT.out]; rfl, rfl⟩

/-- Where a rune stands in a text of ASCII signs. -/
def runeI (s : ByteArray) (r : Nat) : Int := if r < 128 then Lib.indexByte (sb s) (UInt8.ofNat r) else -1

set_option maxRecDepth 100000 in
theorem indexRune_low (s : ByteArray) (r : Nat) (w : World) (hr : r < 128) :
    Calls Tryd.prog 93 #[.string s, .int .i32 r] w fun e w' => e = .returned (.int .i64 (runeI s r)) ∧ Below w.heap.size w w' := by
  have h := fun w => indexByte_any s (r : Int) w
  have hR : runeI s r = Lib.indexByte (sb s) (r : Int).toNat.toUInt8 := by unfold runeI; rw [if_pos hr]; rfl
  rw [← hR] at h
  clear hR
  generalize runeI s r = x at *
  have HH := Lib.hid h
  clear h
  have h0 : (0 : Int) ≤ (r : Int) := by omega
  have h1 : (r : Int) < 128 := by omega
  have wr : IntKind.u8.wrap (r : Int) = (r : Int) := by rw [IntKind.wrap_u8]; omega
  go_enter Tryd.func93, Tryd.ntmps93
  go_wp2_with fail
  refine (HH.out _).mono ?_
  rintro e w' ⟨rfl, rfl⟩
  go_wp2_with fail
  go_ret
  exact ⟨rfl, Below.refl _ _⟩

set_option maxRecDepth 100000 in
theorem indexRune_bad (s : ByteArray) (r : Nat) (w : World) (hr : 128 ≤ r) (hn : r ≠ 65533) (hv : Utf8.valid r = false) :
    Calls Tryd.prog 93 #[.string s, .int .i32 r] w fun e w' => e = .returned (.int .i64 (-1)) ∧ Below w.heap.size w w' := by
  have h := fun w => validRune_any r w
  rw [hv] at h
  have HH := Lib.hid h
  clear h hv
  have h0 : (0 : Int) ≤ (r : Int) := by omega
  have h1 : decide ((r : Int) < 128) = false := by simp; omega
  have h2 : ((r : Int) == 65533) = false := by simp; omega
  go_enter Tryd.func93, Tryd.ntmps93
  go_wp2_with fail
  refine (HH.out _).mono ?_
  rintro e w' ⟨rfl, rfl⟩
  go_wp2_with fail
  go_ret
  exact ⟨rfl, Below.refl _ _⟩

set_option maxRecDepth 100000 in
theorem indexRune_err (s : ByteArray) (w : World) (hs : ∀ (i : Nat) (h : i < s.size), (s[i]'h).toNat < 128) :
    Calls Tryd.prog 93 #[.string s, .int .i32 65533] w fun e w' => e = .returned (.int .i64 (-1)) ∧ Below w.heap.size w w' := by
  have HS := Lib.hid hs
  clear hs
  go_enter Tryd.func93, Tryd.ntmps93
  go_wp2_with fail
  go_loopw [4] (fun n w' => ∃ pos : Nat, pos ≤ s.size ∧ w' = w.iter s pos) (fun _ w' => s.size - w'.iterPos w.heap.size)
  case atStart => exact ⟨0, by omega, rfl⟩
  case round =>
    obtain ⟨pos, hp, rfl⟩ := hrel
    by_cases hlt : pos < s.size
    · have hnx : ∀ ty, (Instr.next (.pointer (some ⟨w.heap.size, 0, none⟩)) true ty).run Tryd.prog (w.iter s pos) = _ := fun ty => run_next_ascii w s pos ty hlt (HS.out pos hlt)
      have h3 : (((s[pos]'hlt).toNat : Int) == 65533) = false := by have := HS.out pos hlt; simp; omega
      go_wp2_with fail
      go_roundw
      case rel => exact ⟨pos + 1, by omega, rfl⟩
      case measure => simp; omega
    · have hnx : ∀ ty, (Instr.next (.pointer (some ⟨w.heap.size, 0, none⟩)) true ty).run Tryd.prog (w.iter s pos) = _ := fun ty => run_next_end w s pos ty hlt
      go_wp2_with fail
      go_ret
      exact ⟨rfl, (Below.refl _ _).alloc (Nat.le_refl _) _⟩

set_option maxRecDepth 100000 in
set_option maxHeartbeats 1000000 in
theorem indexRune_high (s : ByteArray) (r : Nat) (w : World) (hs : ∀ b ∈ s.data.toList, b.toNat < 128) (hsz : 4 ≤ s.size) (hmax : s.size ≤ 1000) (hr : 128 ≤ r) (hr2 : r ≤ 2147483647) (hn : r ≠ 65533) (hv : Utf8.valid r = true) :
    Calls Tryd.prog 93 #[.string s, .int .i32 r] w fun e w' => e = .returned (.int .i64 (-1)) ∧ Below w.heap.size w w' := by
  have h := fun w => validRune_any r w
  rw [hv] at h
  have HH := Lib.hid h
  clear h
  obtain ⟨z1, z2, z3⟩ := encode_facts (r : Int) hv (by omega)
  have hcv : ∀ w, (convert 21 9 (.int .i32 (r : Int))).run Tryd.prog w = .ok (.string (Utf8.encode r)) w := fun w => run_convert_int_string w 21 9 .i32 r (by kernel_rfl) Tryd.underlying9
  generalize Utf8.encode (r : Int) = E at *
  obtain ⟨m, hm⟩ : ∃ m, E.size = m + 1 := ⟨E.size - 1, by omega⟩
  have hmE : m < E.size := by omega
  have hE : 128 ≤ (E[m]'hmE).toNat := by
    have := z3 (by omega)
    simpa [hm] using this
  have hms : m < s.size := by omega
  have hsm : (s[m]'hms).toNat < 128 := hs _ (Array.getElem_mem_toList (xs := s.data) hms)
  have hib : ∀ a b W, Calls Tryd.prog 101 #[.string (s.extract a b), .int .u8 (E[m]'hmE).toNat] W fun e w' => e = .returned (.int .i64 (-1)) ∧ w' = W := fun a b W => by
    have h1 := indexByte_any (s.extract a b) ((E[m]'hmE).toNat : Nat) W
    have h2 : Lib.indexByte (sb (s.extract a b)) (((E[m]'hmE).toNat : Nat) : Int).toNat.toUInt8 = -1 := by
      rw [show sb (s.extract a b) = (s.extract a b).data.toList from rfl, ← Lib.firstIdx_eq]
      exact firstIdx_ascii s a b _ hs (by simpa using hE)
    rw [h2] at h1
    exact h1.mono fun _ _ h => ⟨h.1, h.2.symm⟩
  have t0 : (0 : Int) ≤ (r : Int) := by omega
  have t1 : decide ((r : Int) < 128) = false := by simp; omega
  have t2 : ((r : Int) == 65533) = false := by simp; omega
  have t3 : ((E.size : Int) - 1) = (m : Int) := by omega
  have t4 : (((s[m]'hms).toNat : Int) != ((E[m]'hmE).toNat : Int)) = true := by simp; omega
  have t5 : (m : Int) < (s.size : Int) := by omega
  have t6 : (m : Int) < (E.size : Int) := by omega
  have HI := Lib.hid hib
  clear hib z3 hs hv hn
  have Hm := Lib.hid hm
  clear hm
  go_enter Tryd.func93, Tryd.ntmps93
  go_wp2_with fail
  refine (HH.out _).mono ?_
  rintro e w' ⟨rfl, rfl⟩
  go_wp2_with fail
  go_step3
  go_wp2_with fail
  refine wp_loop_rounds 1 ?_
  rw [rounds_succ]
  go_wp2_with fail
  go_step3
  go_wp2_with fail
  go_quiet (fail)
  go_wp2_with fail
  have hbW := below_drewN (Below.refl w.heap.size w) nq
  generalize w.drewN nq = W at *
  have t7 : IntKind.i64.wrap ((m : Int) + 1) = (m : Int) + 1 := i64_id _ (by omega) (by omega)
  have t8 : (0 : Int) ≤ (m : Int) + 1 := by omega
  have t9 : (m : Int) + 1 ≤ (s.size : Int) := by omega
  go_quiet ((go_at_call 101; exact Calls.quiet_of_same (HI.out _ _ _)))
  go_wp2_with fail
  simp only [Exit.inBlock, Exit.then, Exit.noGoto]
  go_ret
  exact ⟨rfl, below_drewN hbW _⟩

theorem indexRune_any (s : ByteArray) (r : Nat) (w : World) (hs : ∀ b ∈ s.data.toList, b.toNat < 128) (hsz : 4 ≤ s.size) (hmax : s.size ≤ 1000) (hr2 : r ≤ 2147483647) :
    Calls Tryd.prog 93 #[.string s, .int .i32 r] w fun e w' => e = .returned (.int .i64 (runeI s r)) ∧ Below w.heap.size w w' := by
  by_cases h1 : r < 128
  · exact indexRune_low s r w h1
  · rw [show runeI s r = -1 by unfold runeI; rw [if_neg h1]]
    by_cases h2 : r = 65533
    · subst h2
      exact indexRune_err s w fun i h => hs _ (Array.getElem_mem_toList (xs := s.data) h)
    · cases hv : Utf8.valid r
      · exact indexRune_bad s r w (by omega) h2 hv
      · exact indexRune_high s r w hs hsz hmax (by omega) hr2 h2 hv

end Go.Proofs.YtalcfglcbpkebaaDoor
