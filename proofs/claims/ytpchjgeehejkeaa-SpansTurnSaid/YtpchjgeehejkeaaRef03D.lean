/-
  The contracts of the document's Add, Cut, Both and Either of spans.
  Conditions: the numbers are of 32 bits; at most 2^37 spans.
-/
import Derived.Test.YtpchjgeehejkeaaRef03C
namespace Go.Proofs.Ytpchjgeehejkeaa
open Go.RowKit
set_option linter.unusedVariables false
set_option linter.unusedSimpArgs false

set_option maxHeartbeats 800000 in
theorem qboth_any (A1 A2 : Option Addr) (c1 c2 n1 n2 d1 d2 mode : Nat) (a b : List Sp) (w : World) (hn1 : a.length = n1) (hn2 : b.length = n2) (h1 : ShowsG spanC w d1 (.slice A1 n1 c1) a) (h2 : ShowsG spanC w d2 (.slice A2 n2 c2) b) (hu1 : u32s a) (hu2 : u32s b)
    (hb1 : n1 ≤ 137438953472) (hb2 : n2 ≤ 137438953472) (hmode : mode = 0 ∨ mode = 1 ∨ mode = 2) :
    Calls Try.prog 24 #[.slice A1 n1 c1, .slice A2 n2 c2, .int .i64 mode] w fun e w' => ∃ v code r, e = .returned (.tuple #[v, .int .i64 code]) ∧ OwnG spanC 37 w' w.heap.size v r ∧ Below w.heap.size w w' ∧
      ((canon a ∧ canon b ∧ code = 0 ∧ canon r ∧ (∀ n, memS r n ↔ opM mode a b n) ∧ u32s r ∧ r.length ≤ 2 * (n1 + n2)) ∨ (¬ (canon a ∧ canon b) ∧ code = 30 ∧ r = [] ∧ v = .slice none 0 0)) := by
  have hr1 := Lib.hid (qright_any A1 c1 n1 d1 a w hn1 h1 hu1 (by omega))
  have hr2 := Lib.hid (fun q => qright_any A2 c2 n2 d2 b (w.drewN q) hn2 (h2.drewN q) hu2 (by omega))
  have hof := Lib.hid (fun q => qof_any A1 A2 c1 c2 n1 n2 d1 d2 mode a b (w.drewN q) hn1 hn2 (h1.drewN q) (h2.drewN q) hu1 hu2 (by omega) (by omega) hmode)
  by_cases ha : canon a
  · rw [show decide (canon a) = true by simpa using ha] at hr1
    by_cases hb : canon b
    · rw [show decide (canon b) = true by simpa using hb] at hr2
      go_enter Try.func24, Try.ntmps24
      go_wp2_with fail
      refine hr1.out.mono ?_
      rintro e w' ⟨rfl, m, rfl⟩
      go_wp2_with fail
      refine (hr2.out m).mono ?_
      rintro e w' ⟨rfl, m', rfl⟩
      go_wp2_with fail
      refine (hof.out _).mono ?_
      rintro e w' ⟨v, r, rfl, ho, g1, g2, g3, g4, hbl⟩
      go_wp2_with fail
      go_ret2
      exact ⟨_, _, r, rfl, ho, (below_drewN (Below.refl _ _) _).trans hbl, .inl ⟨ha, hb, rfl, g1, g2, g3, g4⟩⟩
    · rw [show decide (canon b) = false by simpa using hb] at hr2
      go_enter Try.func24, Try.ntmps24
      go_wp2_with fail
      refine hr1.out.mono ?_
      rintro e w' ⟨rfl, m, rfl⟩
      go_wp2_with fail
      refine (hr2.out m).mono ?_
      rintro e w' ⟨rfl, m', rfl⟩
      go_wp2_with fail
      go_ret2
      exact ⟨_, _, [], rfl, OwnG.nil_ _ _ _ _, below_drewN (Below.refl _ _) _, .inr ⟨fun h => hb h.2, rfl, rfl, rfl⟩⟩
  · rw [show decide (canon a) = false by simpa using ha] at hr1
    go_enter Try.func24, Try.ntmps24
    go_wp2_with fail
    refine hr1.out.mono ?_
    rintro e w' ⟨rfl, m, rfl⟩
    go_wp2_with fail
    go_ret2
    exact ⟨_, _, [], rfl, OwnG.nil_ _ _ _ _, below_drewN (Below.refl _ _) _, .inr ⟨fun h => ha h.1, rfl, rfl, rfl⟩⟩

/-- What Add and Cut answer. -/
def AddSaid (a : List Sp) (n1 x y : Nat) (cuts : Bool) (v : Value) (code : Int) (r : List Sp) : Prop :=
  (canon a ∧ x ≤ y ∧ code = 0 ∧ canon r ∧ (∀ n, memS r n ↔ opM (if cuts then 2 else 1) a [(x, y)] n) ∧ u32s r ∧ r.length ≤ 2 * (n1 + 1)) ∨ (¬ canon a ∧ code = 30 ∧ r = [] ∧ v = .slice none 0 0) ∨ (canon a ∧ ¬ x ≤ y ∧ code = 2 ∧ r = [] ∧ v = .slice none 0 0)

set_option maxHeartbeats 800000 in
theorem qadd_any (A1 : Option Addr) (c1 n1 d1 x y : Nat) (cuts : Bool) (a : List Sp) (w : World) (hn1 : a.length = n1) (h1 : ShowsG spanC w d1 (.slice A1 n1 c1) a) (hu1 : u32s a) (hb1 : n1 ≤ 137438953472) (hx : x < 4294967296) (hy : y < 4294967296) :
    Calls Try.prog 19 #[.slice A1 n1 c1, .int .u32 x, .int .u32 y, .bool cuts] w fun e w' => ∃ v code r, e = .returned (.tuple #[v, .int .i64 code]) ∧ OwnG spanC 37 w' w.heap.size v r ∧ Below w.heap.size w w' ∧ AddSaid a n1 x y cuts v code r := by
  have hr1 := Lib.hid (qright_any A1 c1 n1 d1 a w hn1 h1 hu1 (by omega))
  by_cases ha : canon a
  · rw [show decide (canon a) = true by simpa using ha] at hr1
    by_cases hxy : x ≤ y
    · have hd : (x : Int) ≤ (y : Int) := by omega
      have hof := Lib.hid (fun q mode hm => qof_any A1 (some ⟨(w.drewN q).heap.size, 0, none⟩) c1 1 n1 1 d1 (w.drewN q).heap.size mode a [(x, y)] ((w.drewN q).alloc (.cells #[.int .u32 (x : Nat), .int .u32 (y : Nat)] 37)) hn1 rfl
        ((h1.drewN q).below' ((Below.refl _ _).alloc (Nat.le_refl _) _) (Nat.le_refl _)) (ShowsG.lit (C := spanC) [(x, y)] (by simp [Code.all, pairC]) (by simp [maxLen])) hu1 (fun s hs => by obtain rfl := List.mem_singleton.1 hs; exact ⟨hx, hy⟩) (by omega) (by omega) hm)
      have HA := Lib.hid ha
      have HXY := Lib.hid hxy
      clear ha hxy
      cases cuts
      · go_enter Try.func19, Try.ntmps19
        go_wp2_with fail
        refine hr1.out.mono ?_
        rintro e w' ⟨rfl, m, rfl⟩
        go_wp2_with fail
        refine (hof.out m 1 (by omega)).mono ?_
        rintro e w' ⟨v, r, rfl, ho, g1, g2, g3, g4, hbl⟩
        go_wp2_with fail
        go_ret2
        exact ⟨_, _, r, rfl, ho.mono (by simp), (((below_drewN (Below.refl _ _) m).alloc (Nat.le_refl _) _)).trans (hbl.mono (by simp)), .inl ⟨HA.out, HXY.out, rfl, g1, g2, g3, g4⟩⟩
      · go_enter Try.func19, Try.ntmps19
        go_wp2_with fail
        refine hr1.out.mono ?_
        rintro e w' ⟨rfl, m, rfl⟩
        go_wp2_with fail
        refine (hof.out m 2 (by omega)).mono ?_
        rintro e w' ⟨v, r, rfl, ho, g1, g2, g3, g4, hbl⟩
        go_wp2_with fail
        go_ret2
        exact ⟨_, _, r, rfl, ho.mono (by simp), (((below_drewN (Below.refl _ _) m).alloc (Nat.le_refl _) _)).trans (hbl.mono (by simp)), .inl ⟨HA.out, HXY.out, rfl, g1, g2, g3, g4⟩⟩
    · have hd : (y : Int) < (x : Int) := by omega
      have HA := Lib.hid ha
      have HXY := Lib.hid hxy
      clear ha hxy
      go_enter Try.func19, Try.ntmps19
      go_wp2_with fail
      refine hr1.out.mono ?_
      rintro e w' ⟨rfl, m, rfl⟩
      go_wp2_with fail
      go_ret2
      exact ⟨_, _, [], rfl, OwnG.nil_ _ _ _ _, below_drewN (Below.refl _ _) _, .inr (.inr ⟨HA.out, HXY.out, rfl, rfl, rfl⟩)⟩
  · rw [show decide (canon a) = false by simpa using ha] at hr1
    have HA := Lib.hid ha
    clear ha
    go_enter Try.func19, Try.ntmps19
    go_wp2_with fail
    refine hr1.out.mono ?_
    rintro e w' ⟨rfl, m, rfl⟩
    go_wp2_with fail
    go_ret2
    exact ⟨_, _, [], rfl, OwnG.nil_ _ _ _ _, below_drewN (Below.refl _ _) _, .inr (.inl ⟨HA.out, rfl, rfl, rfl⟩)⟩

end Go.Proofs.Ytpchjgeehejkeaa
