/-
  Rows of arguments that grow.
  Conditions: none but sizes.
-/
import Derived.Test.YtpbdnfonflmncaaGreatMeTZ
import Derived.Test.YtpbdnfonflmncaaGreatValGZ
import Derived.Test.YtpbdnfonflmncaaGreatValIZ
import Derived.Test.YtpbdnfonflmncaaGreatValLZ
namespace Go.Proofs.YtpbdnfonflmncaaGreat
open Go.RowKit
set_option linter.unusedVariables false
set_option linter.unusedSimpArgs false
structure CellA where
  a : ArgP
  A : Option Addr
  l : Nat
  c : Nat
  x : Cell5
def CellA.vs (y : CellA) : List Value := [.bool y.a.is, .int .u64 y.a.n, .string y.a.s, .int .u32 y.a.f, .string y.a.g, .string y.a.h, .slice y.A y.l y.c, .int .u8 y.x.k, .int .u64 y.x.n, .string y.x.s, .slice y.x.a3 y.x.n3 y.x.c3, .slice y.x.a4 y.x.n4 y.x.c4]
def cellAC : Code CellA := { enc := CellA.vs, sz := 12, len := fun _ => rfl, one := fun x u hu => by simp [CellA.vs] at hu; rcases hu with rfl | rfl | rfl | rfl | rfl | rfl | rfl | rfl | rfl | rfl | rfl | rfl <;> rfl, pos := by omega }
def FitC (w : World) (y : CellA) : Prop := y.l = y.a.q.length ∧ ∃ dq, ShowsA w y.a y.A y.c dq (.int .u8 y.x.k) (.int .u64 y.x.n) (.string y.x.s) (.slice y.x.a3 y.x.n3 y.x.c3) (.slice y.x.a4 y.x.n4 y.x.c4)
def RowA (w : World) (cs : List CellA) (l : List ArgP) : Prop := cs.map (fun y => y.a) = l ∧ ∀ y ∈ cs, FitC w y
theorem RowA.sub {w w' : World} {cs : List CellA} {l : List ArgP} (h : RowA w cs l) (hs : Sub w w') : RowA w' cs l := ⟨h.1, fun y hy => by
 obtain ⟨h1, dq, h2⟩ := h.2 y hy
 exact ⟨h1, dq, h2.sub hs⟩⟩
theorem RowA.nil (w : World) : RowA w [] [] := ⟨rfl, fun y hy => by cases hy⟩
theorem RowA.snoc {w : World} {cs : List CellA} {l : List ArgP} {y : CellA} (h : RowA w cs l) (hy : FitC w y) : RowA w (cs ++ [y]) (l ++ [y.a]) := by
 refine ⟨by rw [List.map_append, h.1]; rfl, fun z hz => ?_⟩
 rcases List.mem_append.1 hz with hz | hz
 ·exact h.2 z hz
 ·obtain rfl := List.mem_singleton.1 hz
  exact hy
theorem RowA.len {w : World} {cs : List CellA} {l : List ArgP} (h : RowA w cs l) : cs.length = l.length := by rw [← h.1, List.length_map]
theorem listA_of {w : World} {B : Nat} {v : Value} {cs : List CellA} {l : List ArgP} (ho : OwnG cellAC 52 w B v cs) (hr : RowA (pm (Free B v (.slice none 0 0)) w) cs l) (h3 : l.length ≤ 1000) : ∃ A c, v = .slice A l.length c ∧ ListA (lowm B w) l A c := by
 have hlen := hr.len
 obtain ⟨A, c, rfl, hlc, hcm⟩ := ho.form
 have hr2 := hr.sub (pm_low fun k hk => hk.1)
 have ho2 := ho.low (Nat.le_refl _)
 refine ⟨A, c, by rw [hlen], by omega, by omega, hcm, fun j hj => ?_⟩
 obtain ⟨b, rfl, hb1, hb2, hf, hc⟩ := ho2.at_ (by omega)
 have hjc : j < cs.length := by omega
 have hcj := fun k hk => hc j hjc k hk
 have hl : cs[j].a = l[j] := by
  have := hr.1
  subst this
  simp
 obtain ⟨q1, dq, q2⟩ := hr2.2 cs[j] (List.getElem_mem hjc)
 rw [hl] at q1 q2
 have e0 := hcj 0 (by decide)
 have e1 := hcj 1 (by decide)
 have e2 := hcj 2 (by decide)
 have e3 := hcj 3 (by decide)
 have e4 := hcj 4 (by decide)
 have e5 := hcj 5 (by decide)
 have e6 := hcj 6 (by decide)
 have e7 := hcj 7 (by decide)
 have e8 := hcj 8 (by decide)
 have e9 := hcj 9 (by decide)
 have e10 := hcj 10 (by decide)
 have e11 := hcj 11 (by decide)
 simp only [cellAC, CellA.vs, hl, q1, List.getElem?_cons_zero, List.getElem?_cons_succ] at e0 e1 e2 e3 e4 e5 e6 e7 e8 e9 e10 e11
 refine ⟨b, 0, cs[j].A, cs[j].c, dq, _, _, _, _, _, rfl, hb2, q2, ?_⟩
 unfold ArgAt
 simp only [Nat.zero_add, Nat.add_assoc]
 exact ⟨⟨e0, e1, e2⟩, ⟨e3, e4, e5⟩, e6, e7, e8, e9, e10, e11⟩
theorem readA_lenS (k : Nat) (s : St) : lenS (readA k s).2 ≤ lenS s := by
 cases h : (readA k s).2 with
 | none => exact Nat.zero_le _
 | some r =>
  have h2 := (readA_some k s r h).1
  rw [h2]
  simp [lenS]
theorem infoArg : (Tryz.prog.info? 52).map (fun i => (i.zero, i.size, i.bytes)) = some (some (.agg #[.bool false, .int .u64 0, .string ⟨#[]⟩, .int .u32 0, .string ⟨#[]⟩, .string ⟨#[]⟩, .slice none 0 0, .int .u8 0, .int .u64 0, .string ⟨#[]⟩, .slice none 0 0, .slice none 0 0]), cellAC.sz, 176) := by kernel_rfl
end Go.Proofs.YtpbdnfonflmncaaGreat
