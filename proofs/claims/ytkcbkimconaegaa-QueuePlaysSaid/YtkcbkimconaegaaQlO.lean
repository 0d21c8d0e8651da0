/-
  How arguments are opened that are a row of calls, of uint16 or of bools.
  Conditions: none.
-/
import Derived.Test.YtkcbkimconaegaaQlF
import Derived.Test.YtkcbkimconaegaaGenOpen
import Derived.Test.YtkcbkimconaegaaRowkit
namespace Go.Proofs.Ytkcbkimconaegaa
open Go.ChangeShapes Go.WideShapes Go.ChangeAt Go.RowKit
set_option linter.unusedVariables false
set_option linter.unusedSimpArgs false
set_option maxRecDepth 100000

theorem q_u16_range {b : Int} (h : (Lit.int .u16 b).wf = true) : 0 ≤ b ∧ b < 65536 := by
  simp only [Lit.wf, IntKind.min, IntKind.max, IntKind.signed, IntKind.bits, Bool.and_eq_true, decide_eq_true_eq] at h
  simp at h
  omega
section
variable {H : Type} {enc : TypeId × Value → H} {w : World} {base : Nat} {spare : Nat → Bool} {held : Bool}

/-- A row whose elements' cells are known one by one. -/
theorem open_rowC {α : Type} (C : Code α) (ok : α → Prop) (z : α) {s e : TypeId} (bytes : Nat) (hu : Try.prog.underlying s = some (.slice e)) (hC : Try.prog.cellsOf e = C.sz) (hB : Try.prog.bytesOf e = bytes)
    (h1 : ∀ {fuel : Nat} {cs : List Value} {x : DataW H × List MemPlace}, cs.length = C.sz → DataW.trod enc Try.prog w base spare held fuel e cs = some x → ∃ f : α, ok f ∧ cs = C.enc f)
    {r : Reach} {b0 : Nat} {v : Value} {d : DataW H} {p : List MemPlace} (hv : Value.okWide Try.prog w r b0 s v) (h : DataW.Trod enc Try.prog w base spare held s v d p)
    {ts : List TypeId} {ds : List (DataW H)} (hsz : (DataW.weightsEach Try.prog ts ds).all (· ≤ reachBytes) = true) (j : Nat) (hj : ts[j]? = some s) (hd : ds[j]? = some d) :
    ∃ (A : Option Addr) (c d0 : Nat) (l : List α), v = .slice A l.length c ∧ ShowsG C w d0 (.slice A l.length c) l ∧ l.length * bytes ≤ 140737488351232 ∧ ∀ y ∈ l, ok y := by
  have hb : reachBytes = 140737488351232 := by decide
  have hw : ∀ x, x ∈ DataW.weights (H := H) Try.prog s d → x ≤ 140737488351232 := fun x hx => by
    have := List.all_eq_true.1 hsz _ (DataW.weights_mem_each hj hd x hx)
    rw [← hb]
    simpa using this
  obtain ⟨fuel, hf⟩ := h
  obtain ⟨A, n, c, rfl⟩ := okWide_slice hu hv
  rcases DataW.trod_slice hu hf with ⟨h0, _⟩ | ⟨a, len, cap, elems, rest, n', hfu, h0, hx, _, hl, hm, hlen, hel, _⟩
  · simp [Value.cells] at h0
    obtain ⟨rfl, rfl, rfl⟩ := h0
    exact ⟨none, 0, 0, [], rfl, ShowsG.nil_ _ _ _, by simp, fun y hy => absurd hy (by simp)⟩
  · simp [Value.cells] at h0
    obtain ⟨rfl, rfl, rfl⟩ := h0
    have hd2 : d = _ := congrArg Prod.fst hx
    rw [hd2] at hw
    simp only [DataW.weights, hu, List.mem_cons, List.mem_append] at hw
    have hn := hw _ (.inl rfl)
    rw [hB] at hn
    simp only [List.length_map] at hn
    have each : ∀ i, ∃ f : α, ∀ (hi : i < elems.length), ok f ∧ ∀ q, q < C.sz → w.cell? ((a.add (i * C.sz)).add q) = (C.enc f)[q]? := fun i => by
      by_cases hi : i < elems.length
      · have h2 := hel i (by omega)
        rw [List.getElem?_eq_getElem hi] at h2
        obtain ⟨cs', h3, h4⟩ := Option.bind_eq_some_iff.1 h2
        obtain ⟨_, h5, h6⟩ := World.cells?_some h3
        rw [hC] at h5 h6
        obtain ⟨f, hok, rfl⟩ := h1 h5 h4
        exact ⟨f, fun _ => ⟨hok, h6⟩⟩
      · exact ⟨z, fun h => absurd h hi⟩
    obtain ⟨l, hll⟩ : ∃ l : List α, l = (List.range n).map fun i => (each i).choose := ⟨_, rfl⟩
    have hlen' : l.length = n := by rw [hll]; simp
    have hget : ∀ i (hi : i < l.length), ok l[i] ∧ ∀ q, q < C.sz → w.cell? ((a.add (i * C.sz)).add q) = (C.enc l[i])[q]? := fun i hi => by
      have := (each i).choose_spec (by omega)
      simpa [hll] using this
    clear hll each hel
    subst hlen'
    refine ⟨some a, c, a.block, l, rfl, ⟨some a, c, rfl, hl, hm, fun hp => ?_⟩, ?_, fun y hy => ?_⟩
    · have h0 := (hget 0 hp).2 0 C.pos
      rw [List.getElem?_eq_getElem (by rw [C.len]; exact C.pos)] at h0
      obtain ⟨b, o, spot⟩ := a
      have hs : spot = none := by
        have := World.cell?_spot h0
        simpa [Addr.add] using this
      subst hs
      have h00 := h0
      rw [add_plain', add_plain', Nat.zero_mul, Nat.add_zero] at h00
      refine ⟨o, rfl, World.block_lt_of_cell? w _ h00, fun i hi q hq => ?_⟩
      have := (hget i hi).2 q hq
      rw [add_plain', add_plain'] at this
      show w.cell? ⟨b, o + (i * C.sz + q), none⟩ = _
      rw [← Nat.add_assoc, this]
    · rw [hlen] at hn
      exact Nat.le_trans (Nat.mul_le_mul_right _ (Nat.le_add_right _ _)) hn
    · obtain ⟨i, hi, rfl⟩ := List.getElem_of_mem hy
      exact (hget i hi).1

/-- A call's cells. -/
theorem open_call {fuel : Nat} {cs : List Value} {x : DataW H × List MemPlace} (hl : cs.length = callC.sz) (h : DataW.trod enc Try.prog w base spare held fuel 32 cs = some x) : ∃ e : CallQ, e.ok ∧ cs = callC.enc e := by
  obtain ⟨xs, n, hfn, rfl, _, hlen, hf⟩ := DataW.trod_struct Try.underlying32 h
  have k8 : Try.prog.cellsOf 5 = 1 := by kernel_rfl
  have k64 : Try.prog.cellsOf 22 = 1 := by kernel_rfl
  have ki : Try.prog.cellsOf 3 = 1 := by kernel_rfl
  have kb : Try.prog.cellsOf 4 = 1 := by kernel_rfl
  obtain ⟨c0, c1, c2, c3, c4, c5, rfl⟩ : ∃ c0 c1 c2 c3 c4 c5, cs = [c0, c1, c2, c3, c4, c5] := by
    match cs, hl with
    | [a, b, c, d, e, f], _ => exact ⟨a, b, c, d, e, f, rfl⟩
  obtain ⟨y0, y1, y2, y3, y4, y5, rfl⟩ : ∃ y0 y1 y2 y3 y4 y5, xs = [y0, y1, y2, y3, y4, y5] := by
    match xs, hlen with
    | [a, b, c, d, e, f], _ => exact ⟨a, b, c, d, e, f, rfl⟩
  have h0 : DataW.trod enc Try.prog w base spare held n 5 (([c0, c1, c2, c3, c4, c5].drop 0).take (Try.prog.cellsOf 5)) = some y0 := hf 0 _ rfl
  have h1 : DataW.trod enc Try.prog w base spare held n 22 (([c0, c1, c2, c3, c4, c5].drop 1).take (Try.prog.cellsOf 22)) = some y1 := hf 1 _ rfl
  have h2 : DataW.trod enc Try.prog w base spare held n 22 (([c0, c1, c2, c3, c4, c5].drop 2).take (Try.prog.cellsOf 22)) = some y2 := hf 2 _ rfl
  have h3 : DataW.trod enc Try.prog w base spare held n 22 (([c0, c1, c2, c3, c4, c5].drop 3).take (Try.prog.cellsOf 22)) = some y3 := hf 3 _ rfl
  have h4 : DataW.trod enc Try.prog w base spare held n 3 (([c0, c1, c2, c3, c4, c5].drop 4).take (Try.prog.cellsOf 3)) = some y4 := hf 4 _ rfl
  have h5 : DataW.trod enc Try.prog w base spare held n 4 (([c0, c1, c2, c3, c4, c5].drop 5).take (Try.prog.cellsOf 4)) = some y5 := hf 5 _ rfl
  simp only [k8, k64, ki, kb, List.drop_zero, List.drop_succ_cons, List.take_succ_cons, List.take_zero] at h0 h1 h2 h3 h4 h5
  obtain ⟨t0, e0, _, w0⟩ := DataW.trod_int Try.underlying5 h0
  obtain ⟨t1, e1, _, w1⟩ := DataW.trod_int Try.underlying22 h1
  obtain ⟨t2, e2, _, w2⟩ := DataW.trod_int Try.underlying22 h2
  obtain ⟨t3, e3, _, w3⟩ := DataW.trod_int Try.underlying22 h3
  obtain ⟨t4, e4, _, w4⟩ := DataW.trod_int Try.underlying3 h4
  obtain ⟨t5, e5, _⟩ := DataW.trod_bool Try.underlying4 h5
  simp at e0 e1 e2 e3 e4 e5
  subst e0 e1 e2 e3 e4 e5
  obtain ⟨a0, b0⟩ := u8_range w0
  obtain ⟨a1, b1⟩ := u64_range w1
  obtain ⟨a2, b2⟩ := u64_range w2
  obtain ⟨a3, b3⟩ := u64_range w3
  obtain ⟨a4, b4⟩ := i64_range w4
  obtain ⟨t0, rfl⟩ := Int.eq_ofNat_of_zero_le a0
  obtain ⟨t1, rfl⟩ := Int.eq_ofNat_of_zero_le a1
  obtain ⟨t2, rfl⟩ := Int.eq_ofNat_of_zero_le a2
  obtain ⟨t3, rfl⟩ := Int.eq_ofNat_of_zero_le a3
  exact ⟨⟨t0, t1, t2, t3, t4, t5⟩, ⟨by show t0 < 256; omega, by show t1 < 18446744073709551616; omega, by show t2 < 18446744073709551616; omega, by show t3 < 18446744073709551616; omega, a4, by show t4 < 9223372036854775808; omega⟩, rfl⟩
section
variable {r : Reach} {b0 : Nat} {v : Value} {d : DataW H} {p : List MemPlace} {ts : List TypeId} {ds : List (DataW H)}
theorem open_calls (hv : Value.okWide Try.prog w r b0 23 v) (h : DataW.Trod enc Try.prog w base spare held 23 v d p) (hsz : (DataW.weightsEach Try.prog ts ds).all (· ≤ reachBytes) = true) (j : Nat) (hj : ts[j]? = some 23) (hd : ds[j]? = some d) :
    ∃ (A : Option Addr) (c d0 : Nat) (l : List CallQ), v = .slice A l.length c ∧ ShowsG callC w d0 (.slice A l.length c) l ∧ l.length ≤ 4000000000000 ∧ ∀ y ∈ l, y.ok := by
  obtain ⟨A, c, d0, l, h1, h2, h3, h4⟩ := open_rowC callC CallQ.ok ⟨0, 0, 0, 0, 0, false⟩ 48 Try.underlying23 (by kernel_rfl) (by kernel_rfl) (fun hl h => open_call hl h) hv h hsz j hj hd
  exact ⟨A, c, d0, l, h1, h2, by omega, h4⟩
theorem open_u16s (hv : Value.okWide Try.prog w r b0 40 v) (h : DataW.Trod enc Try.prog w base spare held 40 v d p) (hsz : (DataW.weightsEach Try.prog ts ds).all (· ≤ reachBytes) = true) (j : Nat) (hj : ts[j]? = some 40) (hd : ds[j]? = some d) :
    ∃ (A : Option Addr) (c d0 : Nat) (l : List Nat), v = .slice A l.length c ∧ ShowsG (natC .u16) w d0 (.slice A l.length c) l ∧ l.length ≤ 1000000000000000 ∧ ∀ y ∈ l, y < 65536 := by
  obtain ⟨A, c, d0, l, h1, h2, h3, h4⟩ := open_rowC (natC .u16) (fun y => y < 65536) 0 2 Try.underlying40 (by kernel_rfl) (by kernel_rfl) (fun {_ cs _} hl h => by
    obtain ⟨t0, e0, _, w0⟩ := DataW.trod_int Try.underlying43 h
    obtain ⟨a0, b0⟩ := q_u16_range w0
    obtain ⟨t0, rfl⟩ := Int.eq_ofNat_of_zero_le a0
    exact ⟨t0, by omega, e0⟩) hv h hsz j hj hd
  exact ⟨A, c, d0, l, h1, h2, by omega, h4⟩
theorem open_u8s (hv : Value.okWide Try.prog w r b0 41 v) (h : DataW.Trod enc Try.prog w base spare held 41 v d p) (hsz : (DataW.weightsEach Try.prog ts ds).all (· ≤ reachBytes) = true) (j : Nat) (hj : ts[j]? = some 41) (hd : ds[j]? = some d) :
    ∃ (A : Option Addr) (c d0 : Nat) (l : List Nat), v = .slice A l.length c ∧ ShowsG (natC .u8) w d0 (.slice A l.length c) l ∧ l.length ≤ 1000000000000000 ∧ ∀ y ∈ l, y < 256 := by
  obtain ⟨A, c, d0, l, h1, h2, h3, h4⟩ := open_rowC (natC .u8) (fun y => y < 256) 0 1 Try.underlying41 (by kernel_rfl) (by kernel_rfl) (fun {_ cs _} hl h => by
    obtain ⟨t0, e0, _, w0⟩ := DataW.trod_int Try.underlying5 h
    obtain ⟨a0, b0⟩ := u8_range w0
    obtain ⟨t0, rfl⟩ := Int.eq_ofNat_of_zero_le a0
    exact ⟨t0, by omega, e0⟩) hv h hsz j hj hd
  exact ⟨A, c, d0, l, h1, h2, by omega, h4⟩
theorem open_flags (hv : Value.okWide Try.prog w r b0 49 v) (h : DataW.Trod enc Try.prog w base spare held 49 v d p) (hsz : (DataW.weightsEach Try.prog ts ds).all (· ≤ reachBytes) = true) (j : Nat) (hj : ts[j]? = some 49) (hd : ds[j]? = some d) :
    ∃ (A : Option Addr) (c d0 : Nat) (l : List Bool), v = .slice A l.length c ∧ ShowsG flagC w d0 (.slice A l.length c) l ∧ l.length ≤ 1000000000000000 := by
  obtain ⟨A, c, d0, l, h1, h2, h3, h4⟩ := open_rowC flagC (fun _ => True) false 1 Try.underlying49 (by kernel_rfl) (by kernel_rfl) (fun {_ cs _} hl h => by
    obtain ⟨t0, e0, _⟩ := DataW.trod_bool Try.underlying4 h
    exact ⟨t0, trivial, e0⟩) hv h hsz j hj hd
  exact ⟨A, c, d0, l, h1, h2, by omega⟩
end
end

end Go.Proofs.Ytkcbkimconaegaa
