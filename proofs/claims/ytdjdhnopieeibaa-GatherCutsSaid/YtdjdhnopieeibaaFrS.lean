/-
  Small facts that several laws of layer 6 share.
  Conditions: none but sizes.
-/
import Derived.Test.YtdjdhnopieeibaaFrR
namespace Go.Proofs.Ytdjdhnopieeibaa
open Go.RowKit
set_option linter.unusedVariables false
set_option linter.unusedSimpArgs false

/-- The frames that Scan tells are not many. -/
theorem scan_len (l : List UInt8) : 12 * (scanD l).1.length ≤ l.length := by
  have h := scan_again _ l (Nat.le_refl _)
  have h2 : ∀ (m : List Fr), (∀ f ∈ m, f.may) → 12 * m.length ≤ (encL m).length := by
    intro m
    induction m with
    | nil => intro _; simp
    | cons f r ih =>
      intro hm
      have := ih (fun g hg => hm g (by simp [hg]))
      simp only [encL, List.length_append, encF_length, List.length_cons]
      omega
  have h3 := h2 _ h.1
  rw [h.2, List.length_take] at h3
  omega
theorem qfsame_true (A1 A2 : Option Addr) (c1 c2 n1 n2 d1 d2 : Nat) (l m : List Fr) (w : World) (hn1 : l.length = n1) (hn2 : m.length = n2) (hl : ShowsG frC w d1 (.slice A1 n1 c1) l) (hm : ShowsG frC w d2 (.slice A2 n2 c2) m) (hb : n1 ≤ 17592186044416) (hb2 : n2 ≤ 17592186044416) (he : l = m) :
    Calls Try.prog 19 #[.slice A1 n1 c1, .slice A2 n2 c2] w fun e w' => e = .returned (.bool true) ∧ ∃ q, w' = w.drewN q := by
  have h := qfsame_any A1 A2 c1 c2 n1 n2 d1 d2 l m w hn1 hn2 hl hm hb hb2
  rw [decide_eq_true he] at h
  exact h
theorem shows_kept {w w' : World} {d : Nat} {v : Value} {l : List UInt8} (h : Shows w d v l) (hb : Below w.heap.size w w') : Shows w' d v l := h.keep hb.size fun hp => hb.block d (h.lt hp)

end Go.Proofs.Ytdjdhnopieeibaa
