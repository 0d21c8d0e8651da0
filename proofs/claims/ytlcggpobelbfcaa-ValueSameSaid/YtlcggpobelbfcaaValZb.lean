/-
  The contracts of slices.Clone at rows of texts and at rows of values.
  Conditions: none but sizes.
-/
import Derived.Test.YtlcggpobelbfcaaValZa
namespace Go.Proofs.Ytlcggpobelbfcaa
open Go.RowKit
set_option linter.unusedVariables false
set_option linter.unusedSimpArgs false

theorem run_eql_nil {P : Program} (w : World) (t e : TypeId) (a : Option Addr) (l c : Nat) (h : P.underlying t = some (.slice e)) : (binOp .eql t (.slice a l c) (.slice none 0 0)).run P w = .ok (.bool a.isNone) w := by
  simp only [binOp]
  simp [run_equal_slice_nil w t e a l c h]

set_option maxRecDepth 100000 in
set_option maxHeartbeats 1000000 in
theorem clone_str (A : Option Addr) (c n d : Nat) (l : List ByteArray) (w : World) (hn : l.length = n) (h : ShowsG strC w d (.slice A n c) l) (hb : n ≤ 8796093022208) :
    Calls Try.prog 68 #[.slice A n c] w fun e w' => ∃ v, e = .returned v ∧ OwnG strC 9 w' w.heap.size v l ∧ Below w.heap.size w w' := by
  rcases A with _ | a
  · have hl : l = [] := by
      rcases Nat.eq_zero_or_pos l.length with h0 | h0
      · exact List.eq_nil_of_length_eq_zero h0
      · obtain ⟨o, e, _⟩ := h.at_ h0
        cases e
    subst hl
    have hq := run_eql_nil (P := Try.prog) w 26 9 none n c Try.underlying26
    go_enter Try.func68, Try.ntmps68
    go_wp2_with fail
    go_ret
    exact ⟨_, rfl, OwnG.nil_ _ _ _ _, Below.refl _ _⟩
  · have hlit := OwnG.lit (C := strC) (e := 9) (w := w) (base := w.heap.size) (cs := #[]) [] (by simp [Code.all]) (by simp [maxLen]) (Nat.le_refl _)
    have hbA : Below w.heap.size w (w.alloc (Obj.cells #[] 9)) := (Below.refl _ _).alloc (Nat.le_refl _) _
    have hsh := h.keep hbA.size (fun hp => hbA.block d (h.lt hp))
    subst hn
    have hq := run_eql_nil (P := Try.prog) w 26 9 (some a) l.length c Try.underlying26
    go_enter Try.func68, Try.ntmps68
    go_wp2_with (at_builtin; refine wpList_appendG strC _ rfl (.tmp 5) (.tmp 6) 26 rfl w.heap.size 9 (.string ⟨#[]⟩) 16 Try.underlying26 infoStr rfl _ [] rfl hlit d _ l rfl hsh (by simp; omega) (by simp; omega) (by simp) ?_; intro v1 w1 ho1 hg1)
    go_ret
    rw [List.nil_append] at ho1
    exact ⟨_, rfl, ho1, hbA.grown hg1 hbA.size (fun k hk => (hlit.block k hk).1)⟩

set_option maxRecDepth 100000 in
set_option maxHeartbeats 1000000 in
theorem clone_val (A : Option Addr) (c n d : Nat) (l : List Cell5) (w : World) (hn : l.length = n) (h : ShowsG valC w d (.slice A n c) l) (hb : n ≤ 1000) :
    Calls Try.prog 69 #[.slice A n c] w fun e w' => ∃ v, e = .returned v ∧ OwnG valC 29 w' w.heap.size v l ∧ Below w.heap.size w w' := by
  rcases A with _ | a
  · have hl : l = [] := by
      rcases Nat.eq_zero_or_pos l.length with h0 | h0
      · exact List.eq_nil_of_length_eq_zero h0
      · obtain ⟨o, e, _⟩ := h.at_ h0
        cases e
    subst hl
    have hq := run_eql_nil (P := Try.prog) w 27 29 none n c Try.underlying27
    go_enter Try.func69, Try.ntmps69
    go_wp2_with fail
    go_ret
    exact ⟨_, rfl, OwnG.nil_ _ _ _ _, Below.refl _ _⟩
  · have hlit := OwnG.lit (C := valC) (e := 29) (w := w) (base := w.heap.size) (cs := #[]) [] (by simp [Code.all]) (by simp [maxLen]) (Nat.le_refl _)
    have hbA : Below w.heap.size w (w.alloc (Obj.cells #[] 29)) := (Below.refl _ _).alloc (Nat.le_refl _) _
    have hsh := h.keep hbA.size (fun hp => hbA.block d (h.lt hp))
    subst hn
    have hq := run_eql_nil (P := Try.prog) w 27 29 (some a) l.length c Try.underlying27
    go_enter Try.func69, Try.ntmps69
    go_wp2_with (at_builtin; refine wpList_appendG valC _ rfl (.tmp 5) (.tmp 6) 27 rfl w.heap.size 29 (.agg #[.int .u8 0, .int .u64 0, .string ⟨#[]⟩, .slice none 0 0, .slice none 0 0]) 80 Try.underlying27 infoVal rfl _ [] rfl hlit d _ l rfl hsh (by simp; omega) (by simp; omega) (by simp) ?_; intro v1 w1 ho1 hg1)
    go_ret
    rw [List.nil_append] at ho1
    exact ⟨_, rfl, ho1, hbA.grown hg1 hbA.size (fun k hk => (hlit.block k hk).1)⟩

/-! ### stores into a row of values -/
/-- The row of a value's list, cell by cell. -/
theorem showsG_list {w : World} {l : List Tree} {A : Option Addr} {c : Nat} (h : ListT w l A c) : ∃ (d : Nat) (xs : List Cell5), xs.length = l.length ∧ ShowsG valC w d (.slice A l.length c) xs ∧ ∀ j (h1 : j < l.length) (h2 : j < xs.length), ShowsT w l[j] xs[j].vs := by
  by_cases h0 : 0 < l.length
  · obtain ⟨d, o, _, _, _, _, _, hA, hd, _⟩ := h.at_ 0 h0
    have hex : ∀ j, ∃ x : Cell5, ∀ (hj : j < l.length), ShowsT w l[j] x.vs ∧ ∀ q, q < 5 → w.cell? ⟨d, o + (j * 5 + q), none⟩ = x.vs[q]? := fun j => by
      by_cases hj : j < l.length
      · obtain ⟨d', o', v0, v1, v2, v3, v4, hA', _, hs, c0, c1, c2, c3, c4⟩ := h.at_ j hj
        rw [hA] at hA'
        simp only [Option.some.injEq, Addr.mk.injEq, and_true] at hA'
        obtain ⟨rfl, rfl⟩ := hA'
        obtain ⟨x, hx⟩ := hs.cell5
        rw [hx] at hs
        simp only [Cell5.vs, List.cons.injEq, and_true] at hx
        obtain ⟨rfl, rfl, rfl, rfl, rfl⟩ := hx
        refine ⟨x, fun _ => ⟨hs, fun q hq => ?_⟩⟩
        match q, hq with
        | 0, _ => exact c0
        | 1, _ => exact c1
        | 2, _ => exact c2
        | 3, _ => exact c3
        | 4, _ => exact c4
      · exact ⟨⟨0, 0, ⟨#[]⟩, none, 0, 0, none, 0, 0⟩, fun h => absurd h hj⟩
    obtain ⟨xs, hxs⟩ : ∃ xs : List Cell5, xs = (List.range l.length).map fun j => (hex j).choose := ⟨_, rfl⟩
    have hxl : xs.length = l.length := by rw [hxs]; simp
    have hget : ∀ j (hj : j < xs.length), ShowsT w (l[j]'(by omega)) xs[j].vs ∧ ∀ q, q < 5 → w.cell? ⟨d, o + (j * 5 + q), none⟩ = xs[j].vs[q]? := fun j hj => by
      have := (hex j).choose_spec (by omega)
      simpa [hxs] using this
    refine ⟨d, xs, hxl, ⟨A, c, by rw [hxl], by rw [hxl]; exact h.lc, h.cm, fun _ => ⟨o, hA, hd, fun j hj q hq => (hget j hj).2 q hq⟩⟩, fun j h1 h2 => (hget j h2).1⟩
  · have hl : l.length = 0 := by omega
    refine ⟨0, [], by simp; omega, ⟨A, c, by simp [hl], by simp, h.cm, fun hp => absurd hp (by simp)⟩, fun j h1 h2 => absurd h2 (by simp)⟩

/-- Five stores into a row of values: one value. -/
theorem OwnG.store5 {w : World} {base b n c : Nat} {xs : List Cell5} (h : OwnG valC 29 w base (.slice (some ⟨b, 0, none⟩) n c) xs) (j : Nat) (hj : j < xs.length) (y : Cell5) :
    OwnG valC 29 (((((w.setCell ⟨b, j * 5, none⟩ (.int .u8 y.k)).setCell ⟨b, j * 5 + 1, none⟩ (.int .u64 y.n)).setCell ⟨b, j * 5 + 2, none⟩ (.string y.s)).setCell ⟨b, j * 5 + 3, none⟩ (.slice y.a3 y.n3 y.c3)).setCell ⟨b, j * 5 + 4, none⟩ (.slice y.a4 y.n4 y.c4)) base (.slice (some ⟨b, 0, none⟩) n c) (xs.set j y) := by
  have h0 := h.set_ j 0 hj (by decide) { xs[j] with k := y.k } (.int .u8 y.k) rfl
  have h1 := h0.set_ j 1 (by simpa using hj) (by decide) { xs[j] with k := y.k, n := y.n } (.int .u64 y.n) (by simp [valC, Cell5.vs])
  have h2 := h1.set_ j 2 (by simpa using hj) (by decide) { xs[j] with k := y.k, n := y.n, s := y.s } (.string y.s) (by simp [valC, Cell5.vs])
  have h3 := h2.set_ j 3 (by simpa using hj) (by decide) { xs[j] with k := y.k, n := y.n, s := y.s, a3 := y.a3, n3 := y.n3, c3 := y.c3 } (.slice y.a3 y.n3 y.c3) (by simp [valC, Cell5.vs])
  have h4 := h3.set_ j 4 (by simpa using hj) (by decide) y (.slice y.a4 y.n4 y.c4) (by simp [valC, Cell5.vs])
  simp only [List.set_set] at h4
  exact h4

end Go.Proofs.Ytlcggpobelbfcaa
