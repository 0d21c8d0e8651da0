/-
  The contract of the document's Open.
  Conditions: at most 2^47 bytes.
-/
import Derived.Test.YtmpcddljgcckcaaDoorCrcC
import Derived.Deep.RegionHeld3
namespace Go.Proofs.YtmpcddljgcckcaaDoor
namespace Crc
open Go.RowKit
set_option linter.unusedVariables false
set_option linter.unusedSimpArgs false

theorem qopen_short (A : Option Addr) (c n : Nat) (w : World) (h4 : n < 4) :
    Calls Tryd.prog 33 #[.slice A n c] w fun e w' => e = .returned (.tuple #[.slice none 0 0, .bool false]) ∧ w = w' := by
  have hlt : (n : Int) < 4 := by omega
  go_enter Tryd.func33, Tryd.ntmps33
  go_wp2_with fail
  go_ret2
  exact ⟨rfl, rfl⟩

set_option maxHeartbeats 400000 in
theorem qopen_bad (A : Option Addr) (c K d : Nat) (l : List UInt8) (w : World) (hK : l.length = K + 4) (hl : Shows w d (.slice A (K + 4) c) l) (hd : d < w.heap.size) (hb : K + 4 ≤ 140737488355328) (hs : ¬ sealD (l.take K) = l) :
    Calls Tryd.prog 33 #[.slice A (K + 4 : Nat) c] w fun e w' => e = .returned (.tuple #[.slice none 0 0, .bool false]) ∧ Below w.heap.size w w' := by
  have hh := hl.head (k := K) (by omega)
  have hlc := hl.lens
  have hl1 : (l.take K).length = K := by simp; omega
  generalize l.take K = body at *
  have hne : ((str8 (sealD body)).toList == (str8 l).toList) = false := by
    rw [str8_toList, str8_toList]
    simpa using hs
  have hseal : ∀ q, Calls Tryd.prog 21 #[.slice A K c] (w.drewN q) fun e w' => ∃ v, e = .returned v ∧ Own 5 w' (w.drewN q).heap.size v (sealD body) ∧ Below (w.drewN q).heap.size (w.drewN q) w' := fun q => qseal_any A c K d body _ hl1 (hh.drewN q) (by omega)
  generalize sealD body = sl at *
  have HSEAL := Lib.hid hseal
  clear hseal hs
  have hge : ¬ (K : Int) + 4 < 4 := by omega
  go_enter Tryd.func33, Tryd.ntmps33
  go_wp2_with fail
  have cvA := conv_at hl.drew
  have cvB := conv_at hl
  go_region_with
    (first
      | (go_at_call 21
         refine (HSEAL.out _).mono ?_
         rintro e w2 ⟨v2, rfl, ho2, hb2⟩
         have hbw : Below w.heap.size w w2 := (below_drewN (Below.refl _ _) 1).trans hb2
         have hl2 : Shows w2 d (.slice A (K + 4) c) l := hl.below hbw hd
         obtain ⟨g2, _, hs2⟩ := ho2.shows
         have hcv2 := conv_at hs2
         have hcv3 := conv_at hl2))
  all_goals
    go_wp2_with fail
    go_ret2
    exact ⟨rfl, hbw⟩

set_option maxHeartbeats 400000 in
theorem qopen_good (A : Option Addr) (c K d : Nat) (l : List UInt8) (w : World) (hK : l.length = K + 4) (hl : Shows w d (.slice A (K + 4) c) l) (hd : d < w.heap.size) (hb : K + 4 ≤ 140737488355328) (hs :  sealD (l.take K) = l) :
    Calls Tryd.prog 33 #[.slice A (K + 4 : Nat) c] w fun e w' => ∃ v, e = .returned (.tuple #[v, .bool true]) ∧ Own 5 w' w.heap.size v (l.take K) ∧ Below w.heap.size w w' := by
  have hh := hl.head (k := K) (by omega)
  have hlc := hl.lens
  have hl1 : (l.take K).length = K := by simp; omega
  generalize l.take K = body at *
  have hne : ((str8 (sealD body)).toList == (str8 l).toList) = true := by
    rw [str8_toList, str8_toList]
    simpa using hs
  have hseal : ∀ q, Calls Tryd.prog 21 #[.slice A K c] (w.drewN q) fun e w' => ∃ v, e = .returned v ∧ Own 5 w' (w.drewN q).heap.size v (sealD body) ∧ Below (w.drewN q).heap.size (w.drewN q) w' := fun q => qseal_any A c K d body _ hl1 (hh.drewN q) (by omega)
  generalize sealD body = sl at *
  have HSEAL := Lib.hid hseal
  clear hseal hs
  have hge : ¬ (K : Int) + 4 < 4 := by omega
  go_enter Tryd.func33, Tryd.ntmps33
  go_wp2_with fail
  have cvA := conv_at hl.drew
  have cvB := conv_at hl
  go_region_with
    (first
      | (go_at_call 21
         refine (HSEAL.out _).mono ?_
         rintro e w2 ⟨v2, rfl, ho2, hb2⟩
         have hbw : Below w.heap.size w w2 := (below_drewN (Below.refl _ _) 1).trans hb2
         have hl2 : Shows w2 d (.slice A (K + 4) c) l := hl.below hbw hd
         obtain ⟨g2, _, hs2⟩ := ho2.shows
         have hcv2 := conv_at hs2
         have hcv3 := conv_at hl2))
  all_goals
    have hh2 : Shows w2 d (.slice A K c) body := hh.below hbw hd
    go_wp2_with (at_builtin
                 refine wpList_append8 _ rfl (.tmp 20) (.tmp 21) 31 rfl w2.heap.size 5 Tryd.underlying31 info5 (.slice none 0 0) [] rfl (Own.nil_ _ _ _) d _ body rfl hh2 (by simp; omega) (Nat.le_refl _) ?_
                 intro v3 w3 ho3 hg3
                 rw [List.nil_append] at ho3)
    go_ret2
    exact ⟨_, rfl, ho3.mono hbw.size, hbw.grown hg3 hbw.size (by simp [Value.ownBlock])⟩

theorem qopen_any (A : Option Addr) (c n d : Nat) (l : List UInt8) (w : World) (hl : Shows w d (.slice A n c) l) (hb : n ≤ 140737488355328) :
    Calls Tryd.prog 33 #[.slice A n c] w fun e w' => ∃ v b, e = .returned (.tuple #[v, .bool b]) ∧ Below w.heap.size w w' ∧
      ((b = true ∧ okSeal l ∧ Own 5 w' w.heap.size v (l.take (l.length - 4))) ∨ (b = false ∧ ¬ okSeal l ∧ v = .slice none 0 0)) := by
  have hn := hl.lens.1
  by_cases h4 : n < 4
  · refine (qopen_short A c n w h4).mono ?_
    rintro e w' ⟨rfl, rfl⟩
    exact ⟨_, _, rfl, Below.refl _ _, .inr ⟨rfl, fun h => by have := h.1; omega, rfl⟩⟩
  · obtain ⟨K, rfl⟩ : ∃ K, n = K + 4 := ⟨n - 4, by omega⟩
    have e4 : l.length - 4 = K := by omega
    have hd := hl.lt (by omega)
    by_cases hs : sealD (l.take K) = l
    · refine (qopen_good A c K d l w hn hl hd hb hs).mono ?_
      rintro e w' ⟨v, rfl, ho, hb⟩
      exact ⟨_, _, rfl, hb, .inl ⟨rfl, (okSeal_iff l).2 ⟨by omega, by rw [e4]; exact hs⟩, by rw [e4]; exact ho⟩⟩
    · refine (qopen_bad A c K d l w hn hl hd hb hs).mono ?_
      rintro e w' ⟨rfl, hb⟩
      exact ⟨_, _, rfl, hb, .inr ⟨rfl, fun h => hs (by have := ((okSeal_iff l).1 h).2; rwa [e4] at this), rfl⟩⟩

end Crc
end Go.Proofs.YtmpcddljgcckcaaDoor
