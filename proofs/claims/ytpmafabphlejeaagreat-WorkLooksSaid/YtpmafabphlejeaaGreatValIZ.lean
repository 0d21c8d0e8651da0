/-
  Texts, together: ValI, ValJ, ValK.
  Conditions: none but sizes.
-/
import Derived.Test.YtpmafabphlejeaaGreatValGZ
import Derived.Defers
import Derived.Recover
import Derived.Deep.RegionHeld3
/-
  The contract of the reader's method elements of package value.
  Conditions: at most 880000 bytes are left, at most 200 values.
-/
namespace Go.Proofs.YtpmafabphlejeaaGreat
open Go.RowKit
set_option linter.unusedVariables false
set_option linter.unusedSimpArgs false

/-! ### what reading leaves -/
theorem finP_some {t t' : Tree} {m m' : Nat} {s s' : St} (h : finP t m s = some (t', m', s')) : t' = t ∧ m' = m ∧ s' = s ∧ s ≠ none := by
  unfold finP at h
  split at h
  · cases h
  · rename_i hs
    simp only [Option.some.injEq, Prod.mk.injEq] at h
    exact ⟨h.1.symm, h.2.1.symm, h.2.2.symm, hs⟩
theorem textT_lenS (most : Int) (p : Nat × St) : lenS (textT most p).2 ≤ lenS p.2 := by
  unfold textT
  split
  · exact takeS_lenS _ _
  · exact takeS_lenS _ _
theorem textS_lenS (q most : Int) (s : St) : lenS (textS q most s).2 ≤ lenS s := Nat.le_trans (textT_lenS _ _) (numS_lenS _ _)
/-- What a way of reading one value must keep. -/
def LeavesV (v : Nat → St → Option (Tree × Nat × St)) : Prop := ∀ m s t m' s', v m s = some (t, m', s') → m' < m ∧ lenS s' ≤ lenS s ∧ s' ≠ none
theorem itemsP_leaves {v : Nat → St → Option (Tree × Nat × St)} (hv : LeavesV v) (keys : Bool) : ∀ (c m : Nat) (s : St) (ks : List ByteArray) (l : List Tree) (m' : Nat) (s' : St), itemsP v keys c m s = some (ks, l, m', s') → m' + c ≤ m ∧ lenS s' ≤ lenS s ∧ l.length = c
  | 0, m, s, ks, l, m', s', h => by
    simp only [itemsP, Option.some.injEq, Prod.mk.injEq] at h
    obtain ⟨rfl, rfl, rfl, rfl⟩ := h
    exact ⟨Nat.le_refl _, Nat.le_refl _, rfl⟩
  | c + 1, m, s, ks, l, m', s', h => by
    unfold itemsP at h
    have hs0 : lenS (if keys = true then (textS 1 255 s).2 else s) ≤ lenS s := by
      split
      · exact textS_lenS _ _ _
      · exact Nat.le_refl _
    cases h1 : v m (if keys = true then (textS 1 255 s).2 else s) with
    | none => rw [h1] at h; cases h
    | some p =>
      obtain ⟨t, m1, s1⟩ := p
      rw [h1] at h
      obtain ⟨a1, a2, a3⟩ := hv _ _ _ _ _ h1
      cases h2 : itemsP v keys c m1 s1 with
      | none => simp only [h2] at h; cases h
      | some p =>
        obtain ⟨ks2, l2, m2, s2⟩ := p
        simp only [h2, Option.some.injEq, Prod.mk.injEq] at h
        obtain ⟨rfl, rfl, rfl, rfl⟩ := h
        obtain ⟨b1, b2, b3⟩ := itemsP_leaves hv keys c m1 s1 _ _ _ _ h2
        exact ⟨by omega, by omega, by simp [b3]⟩
theorem listP_leaves {v : Nat → St → Option (Tree × Nat × St)} (hv : LeavesV v) (k : Nat) (keys : Bool) (m : Nat) (s : St) (t : Tree) (m' : Nat) (s' : St) (h : listP v k keys m s = some (t, m', s')) : m' ≤ m ∧ lenS s' ≤ lenS s ∧ s' ≠ none := by
  unfold listP at h
  cases h1 : itemsP v keys (numS 4 (numS 4 s).2).1 m (numS 4 (numS 4 s).2).2 with
  | none => rw [h1] at h; cases h
  | some p =>
    obtain ⟨ks, l, m1, s1⟩ := p
    simp only [h1] at h
    split at h
    · obtain ⟨_, rfl, rfl, hn⟩ := finP_some h
      obtain ⟨b1, b2, b3⟩ := itemsP_leaves hv keys _ _ _ _ _ _ _ h1
      have := numS_lenS 4 s
      have := numS_lenS 4 (numS 4 s).2
      exact ⟨by omega, by omega, hn⟩
    · cases h
theorem valP_leaves : ∀ f, LeavesV (valP f)
  | 0 => fun m s t m' s' h => by cases h
  | f + 1 => fun m s t m' s' h => by
    cases m with
    | zero => cases h
    | succ m =>
      have hk := numS_lenS 1 s
      unfold valP at h
      split at h
      · obtain ⟨_, rfl, rfl, hn⟩ := finP_some h
        have := numS_lenS (layD (numS 1 s).1).num (numS 1 s).2
        exact ⟨by omega, by omega, hn⟩
      · split at h
        · obtain ⟨_, rfl, rfl, hn⟩ := finP_some h
          have := textS_lenS (layD (numS 1 s).1).text (layD (numS 1 s).1).bytes (numS 1 s).2
          exact ⟨by omega, by omega, hn⟩
        · split at h
          · obtain ⟨a1, a2, a3⟩ := listP_leaves (valP_leaves f) _ _ _ _ _ _ _ h
            exact ⟨by omega, by omega, a3⟩
          · obtain ⟨_, rfl, rfl, hn⟩ := finP_some h
            exact ⟨by omega, by omega, hn⟩

/-- A beginning that has been read. -/
def pre3 (ks0 : List ByteArray) (l0 : List Tree) (p : Option (List ByteArray × List Tree × Nat × St)) : Option (List ByteArray × List Tree × Nat × St) :=
  match p with
  | none => none
  | some (ks, l, r) => some (ks0 ++ ks, l0 ++ l, r)
theorem pre3_nil (p : Option (List ByteArray × List Tree × Nat × St)) : pre3 [] [] p = p := by
  match p with
  | none => rfl
  | some (ks, l, r) => rfl
theorem itemsP_step (v : Nat → St → Option (Tree × Nat × St)) (keys : Bool) (c m : Nat) (s : St) (ks0 : List ByteArray) (l0 : List Tree) (t : Tree) (m' : Nat) (s' : St) (h : v m (if keys = true then (textS 1 255 s).2 else s) = some (t, m', s')) :
    pre3 ks0 l0 (itemsP v keys (c + 1) m s) = pre3 (ks0 ++ (if keys = true then [str8 (textS 1 255 s).1] else [])) (l0 ++ [t]) (itemsP v keys c m' s') := by
  rw [itemsP, h]
  show pre3 ks0 l0 (match itemsP v keys c m' s' with | none => none | some (ks, l, r) => some ((if keys = true then [str8 (textS 1 255 s).1] else []) ++ ks, t :: l, r)) = _
  match itemsP v keys c m' s' with
  | none => rfl
  | some (ks, l, r) => simp [pre3]
theorem itemsP_stop (v : Nat → St → Option (Tree × Nat × St)) (keys : Bool) (c m : Nat) (s : St) (ks0 : List ByteArray) (l0 : List Tree) (h : v m (if keys = true then (textS 1 255 s).2 else s) = none) :
    pre3 ks0 l0 (itemsP v keys (c + 1) m s) = none := by
  rw [itemsP, h]
  rfl

theorem own_frm2 {α : Type} {C : Code α} {e : TypeId} {b g B : Nat} {w w' : World} {v : Value} {l : List α} (h : OwnG C e w B v l) (hf : Frm2 b g w w') (hb : b < B) (hg : g < B) : OwnG C e w' B v l :=
  h.keep fun q hq => hf.block q (h.block q hq).2 (by have := (h.block q hq).1; omega) (by have := (h.block q hq).1; omega)

theorem free_frm2 {b g B : Nat} {v1 v2 : Value} {w w' : World} (hf : Frm2 b g w w') (hb : b < B) (hg : g < B) : Sub (pm (Free B v1 v2) w) (pm (Free B v1 v2) w') :=
  pm_pm hf.size fun k hk hkw => ⟨hk, hf.block k hkw (by have := hk.1; omega) (by have := hk.1; omega)⟩

def LBox (w : World) (b : Nat) (y : Lay) : Prop := w.heap[b]? = some (.cells y.cells 184 (0, 0))

end Go.Proofs.YtpmafabphlejeaaGreat
/-
  The contracts of value.Get's deferred closure and of value.Get.
  Conditions: at most 2^47 bytes.
-/
namespace Go.Proofs.YtpmafabphlejeaaGreat
open Go.RowKit
set_option linter.unusedVariables false
set_option linter.unusedSimpArgs false

/-- Three results in their cells. -/
structure Res3 (w : World) (r n er : Nat) (v0 v1 v2 v3 v4 x y : Value) : Prop where
  r : BoxV w r v0 v1 v2 v3 v4
  n : w.heap[n]? = some (.cells #[x] 3 (0, 0))
  e : w.heap[er]? = some (.cells #[y] 42 (0, 0))

end Go.Proofs.YtpmafabphlejeaaGreat
/-
  The contract of value.Get.
  Conditions: at most 2^47 bytes.
-/
namespace Go.Proofs.YtpmafabphlejeaaGreat
open Go.RowKit
set_option linter.unusedVariables false
set_option linter.unusedSimpArgs false

/-- What Get tells. -/
noncomputable def getP (l : List UInt8) : Option (Tree × Nat) :=
  match valP 200 200 (some (l.take 872200)) with
  | none => none
  | some (t, _, s) => if checkT t = 0 then some (t, (l.take 872200).length - lenS s) else none
def GetSaid (l : List UInt8) (w : World) (r : Option (Tree × Nat)) (e : Ending) (w' : World) : Prop :=
  Below w.heap.size w w' ∧ match r with
    | none => e = .returned (.tuple #[.agg #[.int .u8 0, .int .u64 0, .string ⟨#[]⟩, .slice none 0 0, .slice none 0 0], .int .i64 0, .int .i64 5])
    | some (t, n) => ∃ vs, e = .returned (.tuple #[.agg vs.toArray, .int .i64 n, .int .i64 0]) ∧ ShowsT (lowm w.heap.size w') t vs

theorem Shows.head2 {w : World} {d k n c : Nat} {A : Option Addr} {l : List UInt8} (h : Shows w d (.slice A n c) l) (hk : k ≤ l.length) : Shows w d (.slice A k c) (l.take k) := by
  obtain ⟨A', c', e, h2, h3, h4⟩ := h
  simp only [Value.slice.injEq] at e
  obtain ⟨rfl, rfl, rfl⟩ := e
  refine ⟨A, c, by rw [List.length_take, Nat.min_eq_left hk], by rw [List.length_take]; omega, h3, fun hp => ?_⟩
  rw [List.length_take] at hp
  obtain ⟨o, rfl, hd, hc⟩ := h4 (by omega)
  refine ⟨o, rfl, hd, fun j hj => ?_⟩
  rw [List.length_take] at hj
  rw [List.getElem_take]
  exact hc j (by omega)

theorem Res3.kept {w w' : World} {r n er : Nat} {v0 v1 v2 v3 v4 x y : Value} (h : Res3 w r n er v0 v1 v2 v3 v4 x y) (hb : Below w.heap.size w w') : Res3 w' r n er v0 v1 v2 v3 v4 x y :=
  ⟨h.r.kept hb (Nat.le_refl _), (hb.block n (Array.getElem?_eq_some_iff.1 h.n).1).trans h.n, (hb.block er (Array.getElem?_eq_some_iff.1 h.e).1).trans h.e⟩
theorem Res3.frm {w w' : World} {b g r n er : Nat} {v0 v1 v2 v3 v4 x y : Value} (h : Res3 w r n er v0 v1 v2 v3 v4 x y) (hf : Frm2 b g w w') (hb : r < b ∧ n < b ∧ er < b) (hg : r < g ∧ n < g ∧ er < g) : Res3 w' r n er v0 v1 v2 v3 v4 x y :=
  ⟨(hf.block r h.r.lt (by omega) (by omega)).trans h.r, (hf.block n (Array.getElem?_eq_some_iff.1 h.n).1 (by omega) (by omega)).trans h.n, (hf.block er (Array.getElem?_eq_some_iff.1 h.e).1 (by omega) (by omega)).trans h.e⟩
theorem below_frm {B : Nat} {w0 w w' : World} {b g : Nat} (h : Below B w0 w) (hf : Frm2 b g w w') (hb : B ≤ b) (hg : B ≤ g) (hs : B ≤ w.heap.size) : Below B w0 w' :=
  h.trans ⟨hf.os, hf.tape, hf.output, hf.size, fun k hk => hf.block k (by omega) (by omega) (by omega)⟩

end Go.Proofs.YtpmafabphlejeaaGreat
