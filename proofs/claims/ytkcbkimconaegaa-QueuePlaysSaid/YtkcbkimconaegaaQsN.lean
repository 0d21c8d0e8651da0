/-
  Sorting of numbers: slices.Sort of an own row.
  Conditions: none but sizes.
-/
import Derived.Test.YtkcbkimconaegaaQsM
namespace Go.Proofs.Ytkcbkimconaegaa
open Go.RowKit
open Go.Sort (PermIn SortedIn)
set_option linter.unusedVariables false
set_option linter.unusedSimpArgs false
set_option maxRecDepth 100000

theorem natC_all (l : List Nat) : (natC .u64).all l = l.map fun (x : Nat) => Value.int .u64 x := by
  induction l with
  | nil => rfl
  | cons x r ih => rw [Code.all_cons, ih]; rfl
theorem sortG_any (v : Value) (C : List Nat) (w : World) (base : Nat) (h : OwnG (natC .u64) 22 w base v C) (hn : C.length ≤ 1000000) :
    Calls Try.prog 49 #[v] w fun e w' => e = .returned (.tuple #[]) ∧ ∃ C' : List Nat, C'.Perm C ∧ C'.Pairwise (fun a b => a ≤ b) ∧ OwnG (natC .u64) 22 w' base v C' ∧ w.grownBy w' v.ownBlock := by
  rcases h.2 with ⟨rfl, hn0⟩ | ⟨g, cap, cur, rfl, hbase, hb, h1, h2, h3, h4⟩
  · have hC : C = [] := List.eq_nil_of_length_eq_zero hn0
    subst hC
    refine (sort_nil w).mono fun e w' ⟨e1, e2⟩ => ⟨e1, [], List.Perm.refl _, List.Pairwise.nil, ?_, ?_⟩
    · rw [e2]; exact h
    · rw [e2]; exact ⟨rfl, rfl, rfl, Nat.le_refl _, fun _ _ _ => rfl⟩
  · rw [natC_all] at h4
    have hsz : (natC IntKind.u64).sz = 1 := rfl
    rw [hsz, Nat.mul_one] at h3 h4
    have hH : HoldU w g 0 cur.size C.toArray := ⟨cur, hb, rfl, by simp; omega, fun j hj => by
      have hj2 : j < C.length := by simpa using hj
      have e : (cur.toList.take C.length)[j]? = (C.map fun (x : Nat) => Value.int .u64 x)[j]? := by rw [h4]
      rw [List.getElem?_take, if_pos hj2, Array.getElem?_toList, List.getElem?_map, List.getElem?_eq_getElem hj2] at e
      rw [Nat.zero_add, e]
      simp [hj2]⟩
    refine (sort_any (cap := cap) hH (by simp) hn).mono fun e w' ⟨e1, d, hp, hs, hw⟩ => ⟨e1, d.toList, ?_, ?_, ?_, ?_⟩
    · have p1 := hp.1
      have p := hp.2.2
      have q1 : d.extract 0 C.length = d := by
        have : C.length = d.size := by rw [p1]; simp
        rw [this]; simp
      have q2 : C.toArray.extract 0 C.length = C.toArray := by simp
      rw [q1, q2] at p
      simpa using p
    · have p1 := hp.1
      rw [List.pairwise_iff_getElem]
      intro i j hi hj hij
      have hi2 : i < d.size := by simpa using hi
      have hj2 : j < d.size := by simpa using hj
      have hx := hs i j (Nat.zero_le _) hij (by have : d.size = C.length := by rw [p1]; simp
                                                omega)
      unfold ltN at hx
      rw [decide_eq_false_iff_not, getElem!_pos d j hj2, getElem!_pos d i hi2] at hx
      simpa using Nat.le_of_not_lt hx
    · obtain ⟨cs, g1, g2, g3, g4⟩ := hw.hold
      have hl : d.toList.length = C.length := by have := hp.1; simpa using this
      have hds : d.size = C.length := by simpa using hl
      unfold OwnG
      rw [natC_all, hl]
      refine ⟨by simp [hds, hsz], .inr ⟨g, cap, cs, rfl, hbase, g1, h1, h2, by rw [hsz, g2]; omega, ?_⟩⟩
      rw [hsz, Nat.mul_one]
      apply List.ext_getElem?
      intro j
      by_cases hj : j < C.length
      · have hj2 : j < d.size := by omega
        have := g4 j hj2
        rw [Nat.zero_add] at this
        rw [List.getElem?_take, if_pos hj, Array.getElem?_toList, this, List.getElem?_map, Array.getElem?_toList, Array.getElem?_eq_getElem hj2, getElem!_pos d j hj2]
        rfl
      · rw [List.getElem?_take, if_neg hj, List.getElem?_eq_none (by simp; omega)]
    · exact ⟨hw.mv.os, hw.mv.tape, hw.mv.output, hw.mv.size, fun k hk hne => hw.mv.block k hk fun e => hne (by rw [e]; rfl)⟩

/-- What rises strictly is as it is sorted. -/
theorem sorted_rises {C L : List Nat} (hp : C.Perm L) (hs : C.Pairwise (fun a b => a ≤ b)) (hr : L.Pairwise (fun a b => a ≤ b)) : C = L :=
  List.Perm.eq_of_pairwise (le := fun a b => a ≤ b) (fun a b _ _ h1 h2 => Nat.le_antisymm h1 h2) hs hr hp

end Go.Proofs.Ytkcbkimconaegaa
