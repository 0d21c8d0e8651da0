/-
  The contracts of crc.Open and of the document's Open.
  Conditions: the table reads as the program lays it; at most 2^47 bytes.
-/
import Derived.Test.YtmpcddljgcckcaaDoorCrcB
import Derived.BigQuiet
namespace Go.Proofs.YtmpcddljgcckcaaDoor
namespace Crc
open Go.RowKit
set_option linter.unusedVariables false
set_option linter.unusedSimpArgs false

theorem Tab.drewN {w : World} (h : Tab w) (n : Nat) : Tab (w.drewN n) := h

theorem open_short (A : Option Addr) (c n : Nat) (w : World) (h4 : n < 4) :
    Calls Tryd.prog 30 #[.slice A n c] w fun e w' => e = .returned (.tuple #[.slice none 0 0, .bool false]) ∧ w = w' := by
  have hlt : (n : Int) - 4 < 0 := by omega
  go_enter Tryd.func30, Tryd.ntmps30
  go_wp2_with fail
  go_ret2
  exact ⟨rfl, rfl⟩

set_option maxHeartbeats 400000 in
theorem open_bad (A : Option Addr) (c K d : Nat) (l : List UInt8) (w : World) (h : Tab w) (hK : l.length = K + 4) (hl : Shows w d (.slice A (K + 4) c) l) (hb : K + 4 ≤ 140737488355328) (hs : ¬ sum (l.take K) = le (l.drop K)) :
    Calls Tryd.prog 30 #[.slice A (K + 4 : Nat) c] w fun e w' => e = .returned (.tuple #[.slice none 0 0, .bool false]) ∧ Below w.heap.size w w' := by
  obtain ⟨_, hlc, _⟩ := hl.lens
  have hh := hl.head' (k := K) (c' := K) (by omega) (Nat.le_refl _) (by omega)
  obtain ⟨o, rfl, hdl, _⟩ := hl.at_ (by omega)
  have ht := hl.tail (k := K) (by omega) (some ⟨d, o + K, none⟩) (fun _ => by simp [add_plain'])
  rw [show K + 4 - K = 4 by omega] at ht
  have hl1 : (l.take K).length = K := by simp; omega
  generalize l.take K = body at *
  generalize l.drop K = tl at *
  subst hl1
  have hsum : ∀ q, Calls Tryd.prog 26 #[.slice (some ⟨d, o, none⟩) body.length body.length] (w.drewN q) fun e w' => e = .returned (.int .u32 (sum body : Nat)) ∧ w.drewN q = w' := fun q => sum_any _ _ d body _ (h.drewN q) (hh.drewN q) (by omega)
  have hwr : ∀ q, Calls Tryd.prog 41 #[.slice (some ⟨d, o + body.length, none⟩) 4 (c - body.length)] (w.drewN q) fun e w' => e = .returned (.int .u32 (le tl : Nat)) ∧ w.drewN q = w' := fun q => written_any _ _ 4 d tl _ rfl (ht.drewN q)
  generalize sum body = s1 at *
  generalize le tl = s2 at *
  have HSUM := Lib.hid hsum
  have HWR := Lib.hid hwr
  clear hsum hwr hh ht hl hK
  have hca : ¬ c = body.length := by omega
  have hcb : ¬ c ≤ body.length := by omega
  have hne : ((s1 : Int) != (s2 : Int)) = true := by simp; omega
  have hfz := Below.refl w.heap.size w
  go_enter Tryd.func30, Tryd.ntmps30
  go_wp2_with fail
  go_quiet (first
    | (go_at_call 26; exact Calls.quiet_of_same ((HSUM.out _).mono fun _ _ ⟨a, b⟩ => ⟨a, b.symm⟩))
    | (go_at_call 41; exact Calls.quiet_of_same ((HWR.out _).mono fun _ _ ⟨a, b⟩ => ⟨a, b.symm⟩)))
  go_wp2_with fail
  go_ret2
  exact ⟨rfl, below_drewN (Below.refl _ _) nq⟩

set_option maxHeartbeats 400000 in
theorem open_good (A : Option Addr) (c K d : Nat) (l : List UInt8) (w : World) (h : Tab w) (hK : l.length = K + 4) (hl : Shows w d (.slice A (K + 4) c) l) (hb : K + 4 ≤ 140737488355328) (hs : sum (l.take K) = le (l.drop K)) :
    Calls Tryd.prog 30 #[.slice A (K + 4 : Nat) c] w fun e w' => ∃ v, e = .returned (.tuple #[v, .bool true]) ∧ Own 5 w' w.heap.size v (l.take K) ∧ Below w.heap.size w w' := by
  obtain ⟨_, hlc, _⟩ := hl.lens
  have hh := hl.head' (k := K) (c' := K) (by omega) (Nat.le_refl _) (by omega)
  obtain ⟨o, rfl, hdl, _⟩ := hl.at_ (by omega)
  have ht := hl.tail (k := K) (by omega) (some ⟨d, o + K, none⟩) (fun _ => by simp [add_plain'])
  rw [show K + 4 - K = 4 by omega] at ht
  have hl1 : (l.take K).length = K := by simp; omega
  generalize l.take K = body at *
  generalize l.drop K = tl at *
  subst hl1
  have hsum : ∀ q, Calls Tryd.prog 26 #[.slice (some ⟨d, o, none⟩) body.length body.length] (w.drewN q) fun e w' => e = .returned (.int .u32 (sum body : Nat)) ∧ w.drewN q = w' := fun q => sum_any _ _ d body _ (h.drewN q) (hh.drewN q) (by omega)
  have hwr : ∀ q, Calls Tryd.prog 41 #[.slice (some ⟨d, o + body.length, none⟩) 4 (c - body.length)] (w.drewN q) fun e w' => e = .returned (.int .u32 (le tl : Nat)) ∧ w.drewN q = w' := fun q => written_any _ _ 4 d tl _ rfl (ht.drewN q)
  generalize sum body = s1 at *
  generalize le tl = s2 at *
  have HSUM := Lib.hid hsum
  have HWR := Lib.hid hwr
  have HH := hh
  clear hsum hwr hh ht hl hK
  have hca : ¬ c = body.length := by omega
  have hcb : ¬ c ≤ body.length := by omega
  have hne : ((s1 : Int) != (s2 : Int)) = false := by simp; omega
  go_enter Tryd.func30, Tryd.ntmps30
  go_wp2_with fail
  go_quiet (first
    | (go_at_call 26; exact Calls.quiet_of_same ((HSUM.out _).mono fun _ _ ⟨a, b⟩ => ⟨a, b.symm⟩))
    | (go_at_call 41; exact Calls.quiet_of_same ((HWR.out _).mono fun _ _ ⟨a, b⟩ => ⟨a, b.symm⟩)))
  go_wp2_with (first
    | (at_make
       refine wpList_make8 _ rfl (.tmp 23) (.tmp 23) 31 5 rfl Tryd.underlying31 info5 (body.length : Int) body.length rfl rfl rfl (by omega) ?_
       intro w1 ho1 hg1)
    | (show wpList _ _ _ ({ dst := _, op := Op.call { callee := Callee.builtin Builtin.copy, args := _, argTypes := _ }, type := _, pos := _, after := _, guard := _ } :: _) _ _
       refine wpList_copy8 _ rfl (.tmp 25) (.tmp 26) 31 5 rfl Tryd.underlying31 info5 w.heap.size (.slice (some ⟨w.heap.size, 0, none⟩) body.length body.length) _ rfl ho1 d (.slice (some ⟨d, o, none⟩) body.length body.length) body rfl ((HH.drewN nq).keep hg1.size fun hp => hg1.block _ hdl (by simp)) (by simp) ?_
       intro w2 ho2 hg2))
  go_ret2
  have hb0 : Below w.heap.size w (w.drewN nq) := below_drewN (Below.refl _ _) nq
  have hb1 : Below w.heap.size w w1 := hb0.grown hg1 (Nat.le_refl _) (by simp)
  refine ⟨_, rfl, ?_, hb1.grown hg2 hb1.size (by simp [Value.ownBlock])⟩
  simpa using ho2

theorem open_any (A : Option Addr) (c n d : Nat) (l : List UInt8) (w : World) (h : Tab w) (hl : Shows w d (.slice A n c) l) (hb : n ≤ 140737488355328) :
    Calls Tryd.prog 30 #[.slice A n c] w fun e w' => ∃ v b, e = .returned (.tuple #[v, .bool b]) ∧ Below w.heap.size w w' ∧
      ((b = true ∧ okSeal l ∧ Own 5 w' w.heap.size v (l.take (l.length - 4))) ∨ (b = false ∧ ¬ okSeal l ∧ v = .slice none 0 0)) := by
  have hn := hl.lens.1
  by_cases h4 : n < 4
  · refine (open_short A c n w h4).mono ?_
    rintro e w' ⟨rfl, rfl⟩
    exact ⟨_, _, rfl, Below.refl _ _, .inr ⟨rfl, fun h => by have := h.1; omega, rfl⟩⟩
  · obtain ⟨K, rfl⟩ : ∃ K, n = K + 4 := ⟨n - 4, by omega⟩
    have e4 : l.length - 4 = K := by omega
    by_cases hs : sum (l.take K) = le (l.drop K)
    · refine (open_good A c K d l w h hn hl hb hs).mono ?_
      rintro e w' ⟨v, rfl, ho, hb⟩
      exact ⟨_, _, rfl, hb, .inl ⟨rfl, ⟨by omega, by rw [e4]; exact hs⟩, by rw [e4]; exact ho⟩⟩
    · refine (open_bad A c K d l w h hn hl hb hs).mono ?_
      rintro e w' ⟨rfl, hb⟩
      exact ⟨_, _, rfl, hb, .inr ⟨rfl, fun h => hs (by have := h.2; rwa [e4] at this), rfl⟩⟩

end Crc
end Go.Proofs.YtmpcddljgcckcaaDoor
