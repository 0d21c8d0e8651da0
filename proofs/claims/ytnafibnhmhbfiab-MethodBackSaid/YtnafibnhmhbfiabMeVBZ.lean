/-
  What is read bears counting; the contract of method.Get out of that of args alone.
  Conditions: none but sizes.
-/
import Derived.Test.YtnafibnhmhbfiabMeTZ
import Derived.Test.YtnafibnhmhbfiabMeUBZ
namespace Go.Proofs.Ytnafibnhmhbfiab
open Go.RowKit
set_option linter.unusedVariables false
set_option linter.unusedSimpArgs false

theorem check_cnt {t : Tree} (h : checkT t = 0) : cntT t ≤ 200 := by
  unfold checkT at h
  split at h
  · cases h
  · split at h
    · cases h
    · omega
theorem zT_cnt : cntT zT ≤ 1000000 := by decide
theorem readA_cnt (k : Nat) (s : St) : cntT (readA k s).1.v ≤ 1000000 := by
  unfold readA
  split
  · exact zT_cnt
  split
  · exact zT_cnt
  split
  · exact zT_cnt
  split
  · exact zT_cnt
  split
  · show cntT (nextV s).1 ≤ _
    unfold nextV
    cases s with
    | none => exact zT_cnt
    | some l =>
      cases hg : getP l with
      | none => simp only [hg]; exact zT_cnt
      | some y =>
        obtain ⟨t, n⟩ := y
        simp only [hg]
        have := check_cnt (put_get hg).1
        omega
  · exact zT_cnt
theorem argsR_cnt : ∀ (ks : List UInt8) (fl : Nat) (s : St), ∀ a ∈ (argsR ks fl s).1, cntT a.v ≤ 1000000
  | [], fl, s, a, h => by cases h
  | k :: ks, fl, s, a, h => by
    simp only [argsR, List.mem_cons] at h
    rcases h with rfl | h
    · exact readA_cnt _ _
    · exact argsR_cnt ks _ _ a h
/-- What the reader of arguments must keep, for the kinds of the table. -/
def ArgsLaw : Prop := ∀ (b d : Nat) (sk : ByteArray) (s : St) (w : World), RM w b d s → lenS s ≤ 140737488351232 → (∀ k ∈ sb sk, lett k.toNat) → sk.size ≤ 3 → Calls Try.prog 47 #[.pointer (some ⟨b, 0, none⟩), .string sk] w (ArgsSaid b d (sb sk) s w)
theorem mget_law (HA : ArgsLaw) (v : Value) (l : List UInt8) (d : Nat) (w : World) (h : Shows w d v l) (hl : l.length ≤ 140737488351232) : Calls Try.prog 23 #[v] w (MGetSaid (m_getM l) (errM l) w) := by
  match l, h, hl with
  | [], h, _ => exact mget_few v [] d w h (by simp)
  | [x], h, _ => exact mget_few v [x] d w h (by simp)
  | x :: y :: r, h, hl =>
    cases hs : m_findD x.toNat y.toNat with
    | none => exact mget_none x y r v d w h hs
    | some s =>
      have hk := kinds_ok (kinds_of hs)
      have hlr : r.length ≤ 140737488351232 := by simp at hl; omega
      refine mget_some x y r v d w s h hs hlr (Lib.hid fun b s' w' hR hls => HA b d s.kinds s' w' hR (by omega) hk.2.2.2.2 (by have := hk.2.2.2.1; rwa [sb_length] at this)) ?_
      intro a ha
      exact argsR_cnt _ _ _ a ha

end Go.Proofs.Ytnafibnhmhbfiab
