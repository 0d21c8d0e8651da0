/-
  Texts, together: MeS, MeH.
  Conditions: none but sizes.
-/
import Derived.Test.YtpbdnfonflmncaaGreatBigZ
import Derived.Deep.DeepCutAuto
import Derived.Deep.CutRange
import Derived.Deep.CutBlock
import Derived.BigQuiet
import Derived.BigRegion
import Derived.Deep.RegionWith
import Derived.Deep.RegionLaw
import Derived.Deep.RegionHeld3
import Derived.Deep.LoopGhost
import Derived.WalkSpells
import Derived.StillTailTactics
import Derived.Deep.QuietTactic
import Derived.WalkMore
import Derived.Laws.StructEq
import Derived.Test.YtpbdnfonflmncaaGreatValAZ
namespace Go.Proofs.YtpbdnfonflmncaaGreat
open Go.RowKit
set_option linter.unusedVariables false
set_option linter.unusedSimpArgs false
structure Shape where
  co : Nat
  word : ByteArray
  kinds : ByteArray
def shapesD : Nat → List Shape
  | 1 => [⟨1, ⟨#[115, 116, 97, 114, 116]⟩, ⟨#[116]⟩⟩, ⟨2, ⟨#[115, 116, 97, 114, 116, 45, 111, 107]⟩, ⟨#[116]⟩⟩, ⟨5, ⟨#[116, 117, 110, 101]⟩, ⟨#[119, 119]⟩⟩, ⟨6, ⟨#[116, 117, 110, 101, 45, 111, 107]⟩, ⟨#[119, 119]⟩⟩, ⟨7, ⟨#[111, 112, 101, 110]⟩, ⟨#[115]⟩⟩, ⟨8, ⟨#[111, 112, 101, 110, 45, 111, 107]⟩, ⟨#[]⟩⟩, ⟨11, ⟨#[99, 108, 111, 115, 101]⟩, ⟨#[119, 115]⟩⟩, ⟨12, ⟨#[99, 108, 111, 115, 101, 45, 111, 107]⟩, ⟨#[]⟩⟩]
  | 2 => [⟨1, ⟨#[97, 116, 116, 97, 99, 104]⟩, ⟨#[116, 98]⟩⟩, ⟨2, ⟨#[97, 116, 116, 97, 99, 104, 101, 100]⟩, ⟨#[116]⟩⟩, ⟨3, ⟨#[100, 101, 116, 97, 99, 104]⟩, ⟨#[116]⟩⟩, ⟨4, ⟨#[100, 101, 116, 97, 99, 104, 101, 100]⟩, ⟨#[116, 110]⟩⟩, ⟨7, ⟨#[112, 111, 105, 110, 116]⟩, ⟨#[100]⟩⟩, ⟨10, ⟨#[99, 111, 109, 112, 108, 101, 116, 101, 100]⟩, ⟨#[114]⟩⟩, ⟨11, ⟨#[107, 110, 111, 119, 110]⟩, ⟨#[114]⟩⟩, ⟨12, ⟨#[102, 108, 117, 115, 104]⟩, ⟨#[]⟩⟩]
  | 3 => [⟨1, ⟨#[115, 121, 110, 99]⟩, ⟨#[]⟩⟩, ⟨2, ⟨#[114, 101, 115, 117, 108, 116]⟩, ⟨#[100, 118]⟩⟩, ⟨3, ⟨#[101, 120, 99, 101, 112, 116, 105, 111, 110]⟩, ⟨#[119, 100, 116]⟩⟩]
  | 4 => [⟨1, ⟨#[116, 114, 97, 110, 115, 102, 101, 114]⟩, ⟨#[115, 110]⟩⟩, ⟨2, ⟨#[97, 99, 99, 101, 112, 116]⟩, ⟨#[114]⟩⟩, ⟨3, ⟨#[114, 101, 106, 101, 99, 116]⟩, ⟨#[114, 119, 115]⟩⟩, ⟨4, ⟨#[114, 101, 108, 101, 97, 115, 101]⟩, ⟨#[114, 98]⟩⟩, ⟨7, ⟨#[115, 117, 98, 115, 99, 114, 105, 98, 101]⟩, ⟨#[115, 115]⟩⟩, ⟨8, ⟨#[99, 97, 110, 99, 101, 108]⟩, ⟨#[115]⟩⟩, ⟨10, ⟨#[102, 108, 111, 119]⟩, ⟨#[115, 100]⟩⟩, ⟨12, ⟨#[115, 116, 111, 112]⟩, ⟨#[115]⟩⟩]
  | 5 => [⟨1, ⟨#[115, 101, 108, 101, 99, 116]⟩, ⟨#[]⟩⟩, ⟨2, ⟨#[99, 111, 109, 109, 105, 116]⟩, ⟨#[]⟩⟩, ⟨3, ⟨#[114, 111, 108, 108, 98, 97, 99, 107]⟩, ⟨#[]⟩⟩]
  | 6 => [⟨1, ⟨#[115, 101, 108, 101, 99, 116]⟩, ⟨#[]⟩⟩, ⟨2, ⟨#[115, 116, 97, 114, 116]⟩, ⟨#[120, 98, 98]⟩⟩, ⟨3, ⟨#[101, 110, 100]⟩, ⟨#[120, 98, 98]⟩⟩, ⟨4, ⟨#[99, 111, 109, 109, 105, 116]⟩, ⟨#[120, 98]⟩⟩, ⟨5, ⟨#[102, 111, 114, 103, 101, 116]⟩, ⟨#[120]⟩⟩, ⟨6, ⟨#[103, 101, 116, 45, 116, 105, 109, 101, 111, 117, 116]⟩, ⟨#[120]⟩⟩, ⟨7, ⟨#[112, 114, 101, 112, 97, 114, 101]⟩, ⟨#[120]⟩⟩, ⟨8, ⟨#[114, 101, 99, 111, 118, 101, 114]⟩, ⟨#[]⟩⟩, ⟨9, ⟨#[114, 111, 108, 108, 98, 97, 99, 107]⟩, ⟨#[120]⟩⟩, ⟨10, ⟨#[115, 101, 116, 45, 116, 105, 109, 101, 111, 117, 116]⟩, ⟨#[120, 100]⟩⟩]
  | 8 => [⟨1, ⟨#[100, 101, 99, 108, 97, 114, 101]⟩, ⟨#[115, 98, 100]⟩⟩, ⟨2, ⟨#[100, 101, 108, 101, 116, 101]⟩, ⟨#[115, 98]⟩⟩, ⟨3, ⟨#[112, 117, 114, 103, 101]⟩, ⟨#[115]⟩⟩, ⟨4, ⟨#[113, 117, 101, 114, 121]⟩, ⟨#[115]⟩⟩]
  | _ => []
def wordD : Nat → ByteArray
  | 1 => ⟨#[99, 111, 110, 110, 101, 99, 116, 105, 111, 110]⟩
  | 2 => ⟨#[115, 101, 115, 115, 105, 111, 110]⟩
  | 3 => ⟨#[101, 120, 101, 99, 117, 116, 105, 111, 110]⟩
  | 4 => ⟨#[109, 101, 115, 115, 97, 103, 101]⟩
  | 5 => ⟨#[116, 120]⟩
  | 6 => ⟨#[100, 116, 120]⟩
  | 8 => ⟨#[113, 117, 101, 117, 101]⟩
  | _ => ⟨#[]⟩
def m_findD (cl co : Nat) : Option Shape := (shapesD cl).find? fun s => s.co == co
def kindsD (cl co : Nat) : Option (List UInt8) := (m_findD cl co).map fun s => sb s.kinds
def lettB (k : Nat) : Bool := k == 98 || (k == 110 || k == 119 || k == 100) || (k == 115 || k == 116) || k == 120 || k == 114 || k == 118
theorem shapes_allB : ((List.range 9).all fun cl => (shapesD cl).all fun s => decide ((sb s.kinds).length ≤ 3) && decide (s.co < 13) && (sb s.kinds).all fun k => lettB k.toNat) = true := by decide +kernel
theorem shapes_ok (cl : Nat) (h : cl < 9) (s : Shape) (hs : s ∈ shapesD cl) : (sb s.kinds).length ≤ 3 ∧ s.co < 13 ∧ ∀ k ∈ sb s.kinds, k.toNat = 98 ∨ (k.toNat = 110 ∨ k.toNat = 119 ∨ k.toNat = 100) ∨ (k.toNat = 115 ∨ k.toNat = 116) ∨ k.toNat = 120 ∨ k.toNat = 114 ∨ k.toNat = 118 := by
 have h1 := List.all_eq_true.1 shapes_allB cl (List.mem_range.2 h)
 have h2 := List.all_eq_true.1 h1 s hs
 simp only [Bool.and_eq_true, decide_eq_true_eq] at h2
 refine ⟨h2.1.1, h2.1.2, fun k hk => ?_⟩
 have h3 := List.all_eq_true.1 h2.2 k hk
 simp only [lettB, Bool.or_eq_true, beq_iff_eq] at h3
 omega
theorem shapes_far {cl : Nat} (h : 9 ≤ cl) : shapesD cl = [] := by
 unfold shapesD
 split <;> first | omega | rfl
theorem find_ok {cl co : Nat} {s : Shape} (h : m_findD cl co = some s) : 1 ≤ cl ∧ cl < 9 ∧ s.co = co ∧ s ∈ shapesD cl ∧ co < 13 := by
 have h1 := List.mem_of_find?_eq_some h
 have h2 := List.find?_some h
 have hc : cl < 9 := by
  by_cases hc : cl < 9
  ·exact hc
  ·rw [shapes_far (by omega)] at h1; cases h1
 have h0 : 1 ≤ cl := by
  rcases Nat.eq_zero_or_pos cl with rfl | hp
  ·cases h1
  ·exact hp
 have e := (shapes_ok cl hc s h1).2.1
 have : s.co = co := by simpa using h2
 exact ⟨h0, hc, this, h1, by omega⟩
def shapeC : Code Shape := { enc := fun s => [.int .u8 s.co, .string s.word, .string s.kinds], sz := 3, len := fun _ => rfl, one := fun x u hu => by simp at hu; rcases hu with rfl | rfl | rfl <;> rfl, pos := by omega }
theorem shape_cell {w : World} {d o : Nat} {l : List Shape} (h : ∀ j (h : j < l.length) k, k < shapeC.sz → w.cell? ⟨d, o + (j * shapeC.sz + k), none⟩ = (shapeC.enc l[j])[k]?) {k : Nat} (hk : k < l.length) :
  w.cell? ⟨d, o + k * 3, none⟩ = some (.int .u8 l[k].co) ∧ w.cell? ⟨d, o + k * 3 + 1, none⟩ = some (.string l[k].word) ∧ w.cell? ⟨d, o + k * 3 + 2, none⟩ = some (.string l[k].kinds) :=
 ⟨h k hk 0 (by decide), h k hk 1 (by decide), h k hk 2 (by decide)⟩
end Go.Proofs.YtpbdnfonflmncaaGreat
namespace Go.Proofs.YtpbdnfonflmncaaGreat
end Go.Proofs.YtpbdnfonflmncaaGreat
