/-
  The document's disks in memory; its New, May, Find, Used, burns.
  Conditions: none but sizes.
-/
import Derived.Test.YtngjmeohleoglaaDiU
import Derived.Test.YtngjmeohleoglaaDiB
namespace Go.Proofs.Ytngjmeohleoglaa
open Go.RowKit Go.Shelf
set_option linter.unusedVariables false
set_option linter.unusedSimpArgs false
set_option maxRecDepth 100000

/-- A file in a row: three cells. -/
def fileC : Code (DName × FD) := { enc := fun x => [.string (str8 x.1), .string (str8 x.2.b), .int .i64 x.2.safe], sz := 3, len := fun _ => rfl, one := fun x u hu => by simp at hu; rcases hu with rfl | rfl | rfl <;> rfl, pos := by omega }
theorem infoFile : (Try.prog.info? 64).map (fun i => (i.zero, i.size, i.bytes)) = some (some (.agg #[.string ⟨#[]⟩, .string ⟨#[]⟩, .int .i64 0]), 3, 40) := by kernel_rfl

def BoxQ (w : World) (qb : Nat) (v : Value) (room fuse : Nat) (down : Bool) : Prop := w.heap[qb]? = some (.cells #[v, .int .i64 room, .int .i64 fuse, .bool down] 53 (0, 0))
structure QI (w : World) (base qb : Nat) (v : Value) (st : DD) : Prop where
  box : BoxQ w qb v st.room st.fuse st.down
  row : OwnG fileC 64 w base v st.fs
  low : base ≤ qb
section
variable {w w' : World} {base qb room fuse n : Nat} {down : Bool} {v : Value} {st : DD}
theorem BoxQ.lt (h : BoxQ w qb v room fuse down) : qb < w.heap.size := (Array.getElem?_eq_some_iff.1 h).1
theorem BoxQ.c0 (h : BoxQ w qb v room fuse down) : w.cell? ⟨qb, 0, none⟩ = some v := by rw [cell_of_row _ _ _ _ _ (0, 0) h]; rfl
theorem BoxQ.c1 (h : BoxQ w qb v room fuse down) : w.cell? ⟨qb, 1, none⟩ = some (.int .i64 room) := by rw [cell_of_row _ _ _ _ _ (0, 0) h]; rfl
theorem BoxQ.c2 (h : BoxQ w qb v room fuse down) : w.cell? ⟨qb, 2, none⟩ = some (.int .i64 fuse) := by rw [cell_of_row _ _ _ _ _ (0, 0) h]; rfl
theorem BoxQ.c3 (h : BoxQ w qb v room fuse down) : w.cell? ⟨qb, 3, none⟩ = some (.bool down) := by rw [cell_of_row _ _ _ _ _ (0, 0) h]; rfl
theorem BoxQ.fr (h : BoxQ w qb v room fuse down) (j : Nat) : w.frozen? ⟨qb, j, none⟩ = false := frozen_of_row w qb j _ _ h
theorem BoxQ.set0 (h : BoxQ w qb v room fuse down) (u : Value) : BoxQ (w.setCell ⟨qb, 0, none⟩ u) qb u room fuse down := heap_setCell_same w qb 0 _ 53 u h
theorem BoxQ.set2 (h : BoxQ w qb v room fuse down) (k : Nat) : BoxQ (w.setCell ⟨qb, 2, none⟩ (.int .i64 k)) qb v room k down := heap_setCell_same w qb 2 _ 53 (.int .i64 k) h
theorem BoxQ.set3 (h : BoxQ w qb v room fuse down) (k : Bool) : BoxQ (w.setCell ⟨qb, 3, none⟩ (.bool k)) qb v room fuse k := heap_setCell_same w qb 3 _ 53 (.bool k) h
theorem ownQ_ne {e e' : TypeId} {α : Type} {C : Code α} {l : List α} {b : Nat} {cs : Array Value} {fr : Nat × Nat} (h : OwnG C e w base v l) (hb : w.heap[b]? = some (.cells cs e' fr)) (he : e ≠ e') : v.ownBlock ≠ some b := by
  intro hv
  rcases h.2 with ⟨rfl, _⟩ | ⟨g, cap, cur, rfl, _, hg, _⟩
  · cases hv
  · cases hv
    rw [hg] at hb
    injection hb with hb
    injection hb with _ h2 _
    exact he h2
theorem QI.ne (h : QI w base qb v st) : v.ownBlock ≠ some qb := ownQ_ne h.row h.box (by decide)
theorem QI.keep (h : QI w base qb v st) (h1 : w'.heap[qb]? = w.heap[qb]?) (h2 : ∀ g, v.ownBlock = some g → w'.heap[g]? = w.heap[g]?) : QI w' base qb v st := ⟨h1.trans h.box, h.row.keep h2, h.low⟩
theorem QI.below (h : QI w base qb v st) (hb : Below w.heap.size w w') : QI w' base qb v st := h.keep (hb.block _ h.box.lt) fun g hg => hb.block g (h.row.block g hg).2
theorem QI.drew (h : QI w base qb v st) : QI w.drew base qb v st := h.keep rfl fun _ _ => rfl
theorem QI.drewN (h : QI w base qb v st) (q : Nat) : QI (w.drewN q) base qb v st := h.keep rfl fun _ _ => rfl
theorem QI.set2 (h : QI w base qb v st) (k : Nat) : QI (w.setCell ⟨qb, 2, none⟩ (.int .i64 k)) base qb v { st with fuse := k } :=
  ⟨h.box.set2 k, h.row.keep fun g hg => heap_setCell_other _ _ _ _ (fun e : g = qb => h.ne (e ▸ hg)), h.low⟩
theorem QI.set3 (h : QI w base qb v st) (k : Bool) : QI (w.setCell ⟨qb, 3, none⟩ (.bool k)) base qb v { st with down := k } :=
  ⟨h.box.set3 k, h.row.keep fun g hg => heap_setCell_other _ _ _ _ (fun e : g = qb => h.ne (e ▸ hg)), h.low⟩
/-- Another row. -/
theorem QI.set0 (h : QI w base qb v st) {u : Value} {fs' : DRow} (ho : OwnG fileC 64 w base u fs') : QI (w.setCell ⟨qb, 0, none⟩ u) base qb u { st with fs := fs' } :=
  ⟨h.box.set0 u, ho.keep fun g hg => heap_setCell_other _ _ _ _ (fun e : g = qb => ownQ_ne ho h.box (by decide) (e ▸ hg)), h.low⟩
/-- What a row's cells hold. -/
theorem QI.cells (h : QI w base qb v st) {i : Nat} (hi : i < st.fs.length) : ∃ b c, v = .slice (some ⟨b, 0, none⟩) st.fs.length c ∧ w.cell? ⟨b, i * 3 + 0, none⟩ = some (.string (str8 st.fs[i].1)) ∧ w.cell? ⟨b, i * 3 + 1, none⟩ = some (.string (str8 st.fs[i].2.b)) ∧ w.cell? ⟨b, i * 3 + 2, none⟩ = some (.int .i64 st.fs[i].2.safe) ∧ (∀ j, w.frozen? ⟨b, j, none⟩ = false) ∧ base ≤ b ∧ b < w.heap.size ∧ b ≠ qb := by
  obtain ⟨A, c, rfl, _, _⟩ := h.row.form
  obtain ⟨b, rfl, hb1, hb2, hf, hc⟩ := h.row.at_ (by omega)
  exact ⟨b, c, rfl, hc i hi 0 (by simp [fileC]), hc i hi 1 (by simp [fileC]), hc i hi 2 (by simp [fileC]), hf, hb1, hb2, fun e => h.ne (by rw [e]; rfl)⟩

theorem qnew_any (n : Int) (w : World) : Calls Try.prog 8 #[.int .i64 n] w fun e w' => e = .returned (.pointer (some ⟨w.heap.size, 0, none⟩)) ∧ w' = w.alloc (.cells #[.slice none 0 0, .int .i64 n.toNat, .int .i64 0, .bool false] 53) := by
  obtain ⟨m, hm⟩ : ∃ m : Nat, m = n.toNat := ⟨_, rfl⟩
  rw [← hm]
  go_enter Try.func8, Try.ntmps8
  go_wp2_with fail
  all_goals
    go_ret
    first
    | exact ⟨rfl, by rw [show (m : Int) = n by omega]⟩
    | exact ⟨rfl, by rw [show max n 0 = (m : Int) by omega]⟩
    | exact ⟨rfl, by rw [show (m : Int) = 0 by omega]⟩

theorem qmay_any (s : ByteArray) (w : World) (hs : s.size ≤ 140737488355328) : Calls Try.prog 50 #[.string s] w fun e w' => e = .returned (.bool (okName (sb s))) ∧ w' = w := by
  obtain ⟨R, hR⟩ : ∃ R, R = okName (sb s) := ⟨_, rfl⟩
  rw [← hR]
  have HR := Lib.hid hR
  clear hR
  have HL := Lib.hid (sb_length s)
  go_enter Try.func50, Try.ntmps50
  go_wp2_with fail
  go_loopw [3] (fun i wr => ∃ j : Nat, j ≤ s.size ∧ i = .int .i64 j ∧ wr = w ∧ ∀ k (h : k < (sb s).length), k < j → okByte (sb s)[k] = true) (fun i _ => s.size - (intOf i).toNat)
  case atStart => exact ⟨0, by omega, rfl, rfl, fun k _ h => absurd h (by omega)⟩
  case round =>
    obtain ⟨j, hj, rfl, rfl, hok⟩ := hrel
    have hl := HL.out
    by_cases hlt : j < s.size
    · have b1 : (j : Int) < (s.size : Int) := by omega
      have b3 : IntKind.i64.wrap ((j : Int) + 1) = (j : Int) + 1 := i64_id _ (by omega) (by omega)
      have e1 : (sb s)[j]'(by omega) = s[j] := rfl
      by_cases hb : okByte s[j] = true
      · have HS := Lib.hid (show ∀ k (h : k < (sb s).length), k < j + 1 → okByte (sb s)[k] = true from fun k hk hkj => by
          by_cases c : k < j
          · exact hok k hk c
          · obtain rfl : k = j := by omega
            rw [e1]; exact hb)
        have t1 : decide ((s[j].toNat : Int) ≤ 32) = false := by simp [okByte] at hb; simp; omega
        have t2 : decide ((127 : Int) ≤ (s[j].toNat : Int)) = false := by simp [okByte] at hb; simp; omega
        clear hb hok e1 hl
        go_wp2_with fail
        go_roundw
        case rel => exact ⟨j + 1, by omega, by go_num, trivial, HS.out⟩
        case measure => simp [intOf]; omega
      · have hf : R = false := HR.out.trans (okName_false fun h => hb (by have := h.2.2 j (by omega); rwa [e1] at this))
        by_cases h33 : s[j].toNat ≤ 32
        case' pos => have t1 : decide ((s[j].toNat : Int) ≤ 32) = true := by simp; omega
        case' neg =>
          have t1 : decide ((s[j].toNat : Int) ≤ 32) = false := by simp; omega
          have t2 : decide ((127 : Int) ≤ (s[j].toNat : Int)) = true := by simp [okByte] at hb; simp; omega
        all_goals
          clear hb hok e1 hl h33
          go_wp2_with fail
          go_ret
          first | exact ⟨rfl, rfl⟩ | exact ⟨by rw [hf]; rfl, rfl⟩
    · have b1 : ¬ (j : Int) < (s.size : Int) := by omega
      have hR : R = (decide ((1 : Int) ≤ (s.size : Int)) && decide ((s.size : Int) ≤ 40)) := by
        rw [HR.out]
        cases e : (decide ((1 : Int) ≤ (s.size : Int)) && decide ((s.size : Int) ≤ 40)) with
        | true =>
          simp only [Bool.and_eq_true, decide_eq_true_eq] at e
          exact (okName_iff _).2 ⟨by omega, by omega, fun k hk => hok k hk (by omega)⟩
        | false =>
          refine okName_false fun h => ?_
          have : (decide ((1 : Int) ≤ (s.size : Int)) && decide ((s.size : Int) ≤ 40)) = true := by
            simp only [Bool.and_eq_true, decide_eq_true_eq]
            omega
          rw [e] at this
          cases this
      have HR2 := Lib.hid hR
      clear hok hl hR
      go_wp2_with fail
      all_goals
        go_ret
        refine ⟨?_, rfl⟩
        rw [HR2.out]
        first | (simp_all; done) | (simp_all; intros; omega)

/-- Where a file is. -/
def placeQ (st : DD) (q : DName) : Int := match st.fs.findIdx? (fun x => x.1 == q) with
  | some i => i
  | none => -1

theorem qburns_any (h : QI w base qb v st) (hf : st.fuse ≤ 9223372036854775807) (hd : st.down = false) : Calls Try.prog 53 #[.pointer (some ⟨qb, 0, none⟩)] w fun e w' =>
    e = .returned (.bool (decide (st.fuse = 1))) ∧ QI w' base qb v { st with fuse := st.fuse - 1, down := decide (st.fuse = 1) } ∧ Mv (fun k => k = qb) w w' := by
  obtain ⟨sroom, sfuse, sdown, sfs⟩ := st
  simp only at hd hf
  subst hd
  have c2 := h.box.c2
  have f2 := h.box.fr 2
  by_cases h0 : sfuse = 0
  · subst h0
    have HQ := Lib.hid h
    clear h
    go_enter Try.func53, Try.ntmps53
    go_wp2_with fail
    go_ret
    exact ⟨rfl, HQ.out, Mv.refl _ _⟩
  · obtain ⟨m, rfl⟩ : ∃ m, sfuse = m + 1 := ⟨sfuse - 1, by omega⟩
    have hw : IntKind.i64.wrap (((m + 1 : Nat) : Int) - 1) = (m : Int) := by rw [i64_id _ (by omega) (by omega)]; omega
    have t0 : (((m + 1 : Nat) : Int) == 0) = false := by simp; omega
    have h1 := h.set2 m
    have h2 := h1.set3 (decide (m = 0))
    have k2 := h1.box.c2
    have k3 := h1.box.c3
    have g3 := h1.box.fr 3
    have l3 := h2.box.c3
    have HQ := Lib.hid (And.intro h2 (((Mv.refl (fun k => k = qb) w).setCell (fun _ => rfl) 2 (.int .i64 m)).setCell (fun _ => rfl) 3 (.bool (decide (m = 0)))))
    have t1 : ((m : Int) == 0) = decide (m = 0) := by by_cases e : m = 0 <;> simp [e]
    have t2 : decide (m + 1 = 1) = decide (m = 0) := by by_cases e : m = 0 <;> simp [e]
    generalize hM : m + 1 = M at *
    have HM := Lib.hid hM
    have HT := Lib.hid (And.intro t1 t2)
    clear h h1 h2 hM h0 t2
    go_enter Try.func53, Try.ntmps53
    go_wp2_with fail
    go_ret
    have e : M - 1 = m := by have := HM.out; omega
    rw [HT.out.2, e]
    exact ⟨rfl, HQ.out.1, HQ.out.2⟩
end

end Go.Proofs.Ytngjmeohleoglaa
