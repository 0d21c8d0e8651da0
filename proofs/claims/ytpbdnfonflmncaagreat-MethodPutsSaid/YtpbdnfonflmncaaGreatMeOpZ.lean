/-
  How an argument is opened that is a method.
  Conditions: none.
-/
import Derived.Test.YtpbdnfonflmncaaGreatMeJZ
import Derived.Test.YtpbdnfonflmncaaGreatValOZ
namespace Go.Proofs.YtpbdnfonflmncaaGreat
open Go.ChangeShapes Go.WideShapes Go.ChangeAt Go.RowKit
open Go.ChangeMaps (open_string shut_string)
set_option linter.unusedVariables false
set_option linter.unusedSimpArgs false

section
variable {H : Type} {enc : TypeId × Value → H} {w : World} {base : Nat} {spare : Nat → Bool} {held : Bool}
set_option maxRecDepth 100000 in
/-- A row of spans. -/
theorem open_qrow {fuel : Nat} {cs : List Value} {x : DataW H × List MemPlace} (h : DataW.trod enc Tryz.prog w base spare held fuel 45 cs = some x) (hw : ∀ y, y ∈ DataW.weights (H := H) Tryz.prog 45 x.1 → y ≤ 140737488351232) :
    ∃ (A : Option Addr) (c d0 : Nat) (l : List Sp), cs = [.slice A l.length c] ∧ ShowsG spanC w d0 (.slice A l.length c) l ∧ l.length ≤ 17592186043904 ∧ u32s l := by
  have hC : Tryz.prog.cellsOf 126 = 2 := by kernel_rfl
  have hC1 : Tryz.prog.cellsOf 42 = 1 := by kernel_rfl
  have hB : Tryz.prog.bytesOf 126 = 8 := by kernel_rfl
  rcases open_first Tryz.underlying45 h with rfl | ⟨a, len, cap, n, elems, rest, _, rfl, hl, hm, hlen, hx, hel⟩
  · exact ⟨none, 0, 0, [], rfl, ShowsG.nil_ _ _ _, by simp, fun y hy => absurd hy (by simp)⟩
  · rw [hx] at hw
    simp only [DataW.weights, Tryz.underlying45, List.mem_cons, List.mem_append] at hw
    have hn := hw _ (.inl rfl)
    rw [hB] at hn
    simp only [List.length_map] at hn
    have each : ∀ i, ∃ y : Sp, ∀ (hi : i < elems.length), (w.cell? ((a.add (i * 2)).add 0) = some (.int .u32 (y.1 : Nat)) ∧ w.cell? ((a.add (i * 2)).add 1) = some (.int .u32 (y.2 : Nat))) ∧ y.1 < 4294967296 ∧ y.2 < 4294967296 := fun i => by
      by_cases hi : i < elems.length
      · obtain ⟨cs', h1, h2, h3⟩ := hel i hi
        rw [hC] at h1 h2
        obtain ⟨xs, m, hfm, hxm, hl2, hlen2, hf2⟩ := DataW.trod_struct Tryz.underlying126 h3
        obtain ⟨c0, c1, rfl⟩ : ∃ c0 c1, cs' = [c0, c1] := by
          match cs', h1 with
          | [a, b], _ => exact ⟨a, b, rfl⟩
        obtain ⟨y0, y1, rfl⟩ : ∃ y0 y1, xs = [y0, y1] := by
          match xs, hlen2 with
          | [a, b], _ => exact ⟨a, b, rfl⟩
        have g0 : DataW.trod enc Tryz.prog w base spare held m 42 (([c0, c1].drop 0).take (Tryz.prog.cellsOf 42)) = some y0 := hf2 0 _ rfl
        have g1 : DataW.trod enc Tryz.prog w base spare held m 42 (([c0, c1].drop 1).take (Tryz.prog.cellsOf 42)) = some y1 := hf2 1 _ rfl
        simp only [hC1, List.drop_zero, List.drop_succ_cons, List.take_succ_cons, List.take_zero] at g0 g1
        obtain ⟨u, e0, _, wu⟩ := DataW.trod_int Tryz.underlying42 g0
        obtain ⟨v, e1, _, wv⟩ := DataW.trod_int Tryz.underlying42 g1
        simp at e0 e1
        subst e0 e1
        obtain ⟨u0, u1⟩ := u32_range wu
        obtain ⟨v0, v1⟩ := u32_range wv
        obtain ⟨U, rfl⟩ := Int.eq_ofNat_of_zero_le u0
        obtain ⟨V, rfl⟩ := Int.eq_ofNat_of_zero_le v0
        exact ⟨(U, V), fun _ => ⟨⟨h2 0 (by omega), h2 1 (by omega)⟩, by simp only []; omega, by simp only []; omega⟩⟩
      · exact ⟨(0, 0), fun h => absurd h hi⟩
    obtain ⟨l, hll⟩ : ∃ l : List Sp, l = (List.range len).map fun i => (each i).choose := ⟨_, rfl⟩
    have hlen' : l.length = len := by rw [hll]; simp
    have hget : ∀ i (hi : i < l.length), (w.cell? ((a.add (i * 2)).add 0) = some (.int .u32 (l[i].1 : Nat)) ∧ w.cell? ((a.add (i * 2)).add 1) = some (.int .u32 (l[i].2 : Nat))) ∧ l[i].1 < 4294967296 ∧ l[i].2 < 4294967296 := fun i hi => by
      have := (each i).choose_spec (by omega)
      simpa [hll] using this
    clear hll each hel
    subst hlen'
    refine ⟨some a, cap, a.block, l, rfl, ⟨some a, cap, rfl, hl, hm, fun hp => ?_⟩, by omega, fun y hy => ?_⟩
    · have h0 := (hget 0 hp).1.1
      obtain ⟨b, o, spot⟩ := a
      have hs : spot = none := by
        have := World.cell?_spot h0
        simpa [Addr.add] using this
      subst hs
      rw [add_plain', add_plain'] at h0
      refine ⟨o, rfl, World.block_lt_of_cell? w _ h0, fun i hi k hk => ?_⟩
      obtain ⟨⟨q0, q1⟩, _⟩ := hget i hi
      rw [add_plain', add_plain'] at q0 q1
      have hk2 : k = 0 ∨ k = 1 := by
        have : spanC.sz = 2 := rfl
        omega
      have hsz : spanC.sz = 2 := rfl
      rcases hk2 with rfl | rfl
      · rw [hsz, ← Nat.add_assoc, q0]; rfl
      · rw [hsz, ← Nat.add_assoc, q1]; rfl
    · obtain ⟨i, hi, rfl⟩ := List.getElem_of_mem hy
      exact (hget i hi).2

set_option maxRecDepth 100000 in
/-- A name's cells. -/
theorem open_xrow {fuel : Nat} {cs : List Value} {x : DataW H × List MemPlace} (h : DataW.trod enc Tryz.prog w base spare held fuel 44 cs = some x) (hw : ∀ y, y ∈ DataW.weights (H := H) Tryz.prog 44 x.1 → y ≤ 140737488351232) :
    ∃ (f : Nat) (g h : ByteArray), cs = [.int .u32 f, .string g, .string h] ∧ f < 4294967296 ∧ g.size ≤ 140737488351232 ∧ h.size ≤ 140737488351232 := by
  obtain ⟨xs, m, hfm, hxm, hl2, hlen2, hf2⟩ := DataW.trod_struct Tryz.underlying44 h
  have hC : Tryz.prog.cellsOf 44 = 3 := by kernel_rfl
  have hC1 : Tryz.prog.cellsOf 42 = 1 := by kernel_rfl
  have hC9 : Tryz.prog.cellsOf 9 = 1 := by kernel_rfl
  rw [hC] at hl2
  obtain ⟨c0, c1, c2, rfl⟩ : ∃ c0 c1 c2, cs = [c0, c1, c2] := by
    match cs, hl2 with
    | [a, b, c], _ => exact ⟨a, b, c, rfl⟩
  obtain ⟨y0, y1, y2, rfl⟩ : ∃ y0 y1 y2, xs = [y0, y1, y2] := by
    match xs, hlen2 with
    | [a, b, c], _ => exact ⟨a, b, c, rfl⟩
  have g0 : DataW.trod enc Tryz.prog w base spare held m 42 (([c0, c1, c2].drop 0).take (Tryz.prog.cellsOf 42)) = some y0 := hf2 0 _ rfl
  have g1 : DataW.trod enc Tryz.prog w base spare held m 9 (([c0, c1, c2].drop 1).take (Tryz.prog.cellsOf 9)) = some y1 := hf2 1 _ rfl
  have g2 : DataW.trod enc Tryz.prog w base spare held m 9 (([c0, c1, c2].drop 2).take (Tryz.prog.cellsOf 9)) = some y2 := hf2 2 _ rfl
  simp only [hC1, hC9, List.drop_zero, List.drop_succ_cons, List.take_succ_cons, List.take_zero] at g0 g1 g2
  obtain ⟨u, e0, _, wu⟩ := DataW.trod_int Tryz.underlying42 g0
  obtain ⟨s1, e1, hs1, _⟩ := DataW.trod_string Tryz.underlying9 g1
  obtain ⟨s2, e2, hs2, _⟩ := DataW.trod_string Tryz.underlying9 g2
  simp at e0 e1 e2
  subst e0 e1 e2
  obtain ⟨u0, u1⟩ := u32_range wu
  obtain ⟨U, rfl⟩ := Int.eq_ofNat_of_zero_le u0
  rw [hxm] at hw
  simp only [List.map_cons, List.map_nil] at hw
  have hw2 : ∀ y, (y ∈ DataW.weights (H := H) Tryz.prog 9 y1.1 ∨ y ∈ DataW.weights (H := H) Tryz.prog 9 y2.1) → y ≤ 140737488351232 := fun y hy => hw y (by
    simp only [DataW.weights, Tryz.underlying44, DataW.weightsEach, List.map_cons, List.map_nil, List.mem_append]
    rcases hy with h | h
    · exact .inr (.inl h)
    · exact .inr (.inr (.inl h)))
  refine ⟨U, s1, s2, rfl, by omega, hw2 s1.size (.inl ?_), hw2 s2.size (.inr ?_)⟩
  · rw [hs1]; simp [DataW.weights]
  · rw [hs2]; simp [DataW.weights]

set_option maxRecDepth 100000 in
/-- An argument's cells. -/
theorem open_arow {fuel : Nat} {cs : List Value} {x : DataW H × List MemPlace} (h : DataW.trod enc Tryz.prog w base spare held fuel 52 cs = some x) (hw : ∀ y, y ∈ DataW.weights (H := H) Tryz.prog 52 x.1 → y ≤ 140737488351232) :
    ∃ (a : ArgP) (A : Option Addr) (c dq : Nat) (v0 v1 v2 v3 v4 : Value), cs = argVs a (.slice A a.q.length c) v0 v1 v2 v3 v4 ∧ ShowsA w a A c dq v0 v1 v2 v3 v4 := by
  obtain ⟨xs, m, hfm, hxm, hl2, hlen2, hf2⟩ := DataW.trod_struct Tryz.underlying52 h
  have hC : Tryz.prog.cellsOf 52 = 12 := by kernel_rfl
  have kb : Tryz.prog.cellsOf 4 = 1 := by kernel_rfl
  have kn : Tryz.prog.cellsOf 41 = 1 := by kernel_rfl
  have ks : Tryz.prog.cellsOf 9 = 1 := by kernel_rfl
  have kx : Tryz.prog.cellsOf 44 = 3 := by kernel_rfl
  have kq : Tryz.prog.cellsOf 45 = 1 := by kernel_rfl
  have kv : Tryz.prog.cellsOf 50 = 5 := by kernel_rfl
  rw [hC] at hl2
  obtain ⟨c0, c1, c2, c3, c4, c5, c6, c7, c8, c9, c10, c11, rfl⟩ : ∃ c0 c1 c2 c3 c4 c5 c6 c7 c8 c9 c10 c11, cs = [c0, c1, c2, c3, c4, c5, c6, c7, c8, c9, c10, c11] := by
    match cs, hl2 with
    | [a, b, c, d, e, f, g, h, i, j, k, l], _ => exact ⟨a, b, c, d, e, f, g, h, i, j, k, l, rfl⟩
  obtain ⟨y0, y1, y2, y3, y4, y5, rfl⟩ : ∃ y0 y1 y2 y3 y4 y5, xs = [y0, y1, y2, y3, y4, y5] := by
    match xs, hlen2 with
    | [a, b, c, d, e, f], _ => exact ⟨a, b, c, d, e, f, rfl⟩
  have g0 : DataW.trod enc Tryz.prog w base spare held m 4 (([c0, c1, c2, c3, c4, c5, c6, c7, c8, c9, c10, c11].drop 0).take (Tryz.prog.cellsOf 4)) = some y0 := hf2 0 _ rfl
  have g1 : DataW.trod enc Tryz.prog w base spare held m 41 (([c0, c1, c2, c3, c4, c5, c6, c7, c8, c9, c10, c11].drop 1).take (Tryz.prog.cellsOf 41)) = some y1 := hf2 1 _ rfl
  have g2 : DataW.trod enc Tryz.prog w base spare held m 9 (([c0, c1, c2, c3, c4, c5, c6, c7, c8, c9, c10, c11].drop 2).take (Tryz.prog.cellsOf 9)) = some y2 := hf2 2 _ rfl
  have g3 : DataW.trod enc Tryz.prog w base spare held m 44 (([c0, c1, c2, c3, c4, c5, c6, c7, c8, c9, c10, c11].drop 3).take (Tryz.prog.cellsOf 44)) = some y3 := hf2 3 _ rfl
  have g4 : DataW.trod enc Tryz.prog w base spare held m 45 (([c0, c1, c2, c3, c4, c5, c6, c7, c8, c9, c10, c11].drop 6).take (Tryz.prog.cellsOf 45)) = some y4 := hf2 4 _ rfl
  have g5 : DataW.trod enc Tryz.prog w base spare held m 50 (([c0, c1, c2, c3, c4, c5, c6, c7, c8, c9, c10, c11].drop 7).take (Tryz.prog.cellsOf 50)) = some y5 := hf2 5 _ rfl
  simp only [kb, kn, ks, kx, kq, kv, List.drop_zero, List.drop_succ_cons, List.take_succ_cons, List.take_zero] at g0 g1 g2 g3 g4 g5
  rw [hxm] at hw
  simp only [List.map_cons, List.map_nil] at hw
  have hw2 : ∀ y, (y ∈ DataW.weights (H := H) Tryz.prog 9 y2.1 ∨ y ∈ DataW.weights (H := H) Tryz.prog 44 y3.1 ∨ y ∈ DataW.weights (H := H) Tryz.prog 45 y4.1 ∨ y ∈ DataW.weights (H := H) Tryz.prog 50 y5.1) → y ≤ 140737488351232 := fun y hy => hw y (by
    simp only [DataW.weights, Tryz.underlying52, DataW.weightsEach, List.map_cons, List.map_nil, List.mem_append]
    rcases hy with h | h | h | h
    · exact .inr (.inr (.inl h))
    · exact .inr (.inr (.inr (.inl h)))
    · exact .inr (.inr (.inr (.inr (.inl h))))
    · exact .inr (.inr (.inr (.inr (.inr (.inl h))))))
  obtain ⟨b, e0, _⟩ := DataW.trod_bool Tryz.underlying4 g0
  obtain ⟨u, e1, _, wu⟩ := DataW.trod_int Tryz.underlying41 g1
  obtain ⟨s, e2, hs, _⟩ := DataW.trod_string Tryz.underlying9 g2
  simp at e0 e1 e2
  subst e0 e1 e2
  obtain ⟨u0, u1⟩ := u64_range wu
  obtain ⟨N, rfl⟩ := Int.eq_ofNat_of_zero_le u0
  obtain ⟨f, g, h', e3, hf, hg, hh⟩ := open_xrow g3 (fun y hy => hw2 y (.inr (.inl hy)))
  obtain ⟨A, c, dq, q, e4, hq, hql, hqu⟩ := open_qrow g4 (fun y hy => hw2 y (.inr (.inr (.inl hy))))
  obtain ⟨t, ht⟩ := open_val m _ _ g5 (fun y hy => hw2 y (.inr (.inr (.inr hy))))
  simp only [List.cons.injEq, and_true] at e3 e4
  obtain ⟨rfl, rfl, rfl⟩ := e3
  subst e4
  have hz : s.size ≤ 140737488351232 := by
    refine hw2 s.size (.inl ?_)
    rw [hs]
    simp [DataW.weights]
  exact ⟨⟨b, N, s, f, g, h', q, t⟩, A, c, dq, c7, c8, c9, c10, c11, rfl, ⟨⟨by simp only []; omega, hf, hqu, hz, hg, hh, hql⟩, hq, ht⟩⟩

set_option maxRecDepth 100000 in
/-- A method that came in. -/
theorem open_method {r : Reach} {b0 : Nat} {v : Value} {d : DataW H} {p : List MemPlace} (hv : Value.okWide Tryz.prog w r b0 24 v) (h : DataW.Trod enc Tryz.prog w base spare held 24 v d p)
    {ts : List TypeId} {ds : List (DataW H)} (hsz : (DataW.weightsEach Tryz.prog ts ds).all (· ≤ reachBytes) = true) (j : Nat) (hj : ts[j]? = some 24) (hd : ds[j]? = some d) :
    ∃ (cl co : Nat) (sy : Bool) (l : List ArgP) (A : Option Addr) (c : Nat), v = .agg #[.int .u8 cl, .int .u8 co, .bool sy, .slice A l.length c] ∧ cl < 256 ∧ co < 256 ∧ ListA w l A c := by
  have hb : reachBytes = 140737488351232 := by decide
  have hw : ∀ x, x ∈ DataW.weights (H := H) Tryz.prog 24 d → x ≤ 140737488351232 := fun x hx => by
    have := List.all_eq_true.1 hsz _ (DataW.weights_mem_each hj hd x hx)
    rw [← hb]
    simpa using this
  obtain ⟨fuel, hf⟩ := h
  obtain ⟨cs0, rfl, _⟩ := okWide_struct Tryz.underlying24 hv
  obtain ⟨xs, m, hfm, hxm, hl2, hlen2, hf2⟩ := DataW.trod_struct Tryz.underlying24 hf
  have hC : Tryz.prog.cellsOf 24 = 4 := by kernel_rfl
  have k8 : Tryz.prog.cellsOf 5 = 1 := by kernel_rfl
  have kb : Tryz.prog.cellsOf 4 = 1 := by kernel_rfl
  have kl : Tryz.prog.cellsOf 22 = 1 := by kernel_rfl
  have kA : Tryz.prog.cellsOf 52 = 12 := by kernel_rfl
  have bA : Tryz.prog.bytesOf 52 = 176 := by kernel_rfl
  rw [hC] at hl2
  have hl4 : cs0.toList.length = 4 := hl2
  obtain ⟨cs, rfl⟩ : ∃ cs : List Value, cs0 = cs.toArray := ⟨cs0.toList, by simp⟩
  have hl4 : cs.length = 4 := by simpa using hl4
  obtain ⟨c0, c1, c2, c3, rfl⟩ : ∃ c0 c1 c2 c3, cs = [c0, c1, c2, c3] := by
    match cs, hl4 with
    | [a, b, c, d], _ => exact ⟨a, b, c, d, rfl⟩
  obtain ⟨y0, y1, y2, y3, rfl⟩ : ∃ y0 y1 y2 y3, xs = [y0, y1, y2, y3] := by
    match xs, hlen2 with
    | [a, b, c, d], _ => exact ⟨a, b, c, d, rfl⟩
  have g0 : DataW.trod enc Tryz.prog w base spare held m 5 (([c0, c1, c2, c3].drop 0).take (Tryz.prog.cellsOf 5)) = some y0 := hf2 0 _ rfl
  have g1 : DataW.trod enc Tryz.prog w base spare held m 5 (([c0, c1, c2, c3].drop 1).take (Tryz.prog.cellsOf 5)) = some y1 := hf2 1 _ rfl
  have g2 : DataW.trod enc Tryz.prog w base spare held m 4 (([c0, c1, c2, c3].drop 2).take (Tryz.prog.cellsOf 4)) = some y2 := hf2 2 _ rfl
  have g3 : DataW.trod enc Tryz.prog w base spare held m 22 (([c0, c1, c2, c3].drop 3).take (Tryz.prog.cellsOf 22)) = some y3 := hf2 3 _ rfl
  simp only [k8, kb, kl, List.drop_zero, List.drop_succ_cons, List.take_succ_cons, List.take_zero] at g0 g1 g2 g3
  rw [(Prod.mk.inj hxm).1] at hw
  simp only [List.map_cons, List.map_nil] at hw
  have hw3 : ∀ y, y ∈ DataW.weights (H := H) Tryz.prog 22 y3.1 → y ≤ 140737488351232 := fun y hy => hw y (by
    simp only [DataW.weights, Tryz.underlying24, DataW.weightsEach, List.map_cons, List.map_nil, List.mem_append]
    exact .inr (.inr (.inr (.inl hy))))
  obtain ⟨u, e0, _, wu⟩ := DataW.trod_int Tryz.underlying5 g0
  obtain ⟨v, e1, _, wv⟩ := DataW.trod_int Tryz.underlying5 g1
  obtain ⟨b, e2, _⟩ := DataW.trod_bool Tryz.underlying4 g2
  simp at e0 e1 e2
  subst e0 e1 e2
  obtain ⟨u0, u1⟩ := u8_range wu
  obtain ⟨v0, v1⟩ := u8_range wv
  obtain ⟨U, rfl⟩ := Int.eq_ofNat_of_zero_le u0
  obtain ⟨V, rfl⟩ := Int.eq_ofNat_of_zero_le v0
  have hlist : ∃ (l : List ArgP) (A : Option Addr) (c : Nat), c3 = .slice A l.length c ∧ ListA w l A c := by
    rcases open_first Tryz.underlying22 g3 with e4 | ⟨ad, len, cap, n', elems, rest, hn', e4, hlc, hcm, hel, hx, hall⟩
    · simp at e4
      exact ⟨[], none, 0, e4, ListA.nil w⟩
    · simp at e4
      rw [hx] at hw3
      simp only [DataW.weights, Tryz.underlying22, List.mem_cons, List.mem_append] at hw3
      have hn := hw3 _ (.inl rfl)
      rw [bA] at hn
      simp only [List.length_map] at hn
      have each : ∀ i, ∃ a : ArgP, ∀ (hi : i < elems.length), ∃ (A : Option Addr) (c dq : Nat) (v0 v1 v2 v3 v4 : Value), (∀ j, j < 12 → w.cell? ((ad.add (i * 12)).add j) = (argVs a (.slice A a.q.length c) v0 v1 v2 v3 v4)[j]?) ∧ ShowsA w a A c dq v0 v1 v2 v3 v4 := fun i => by
        by_cases hi : i < elems.length
        · obtain ⟨cs', q1, q2, q3⟩ := hall i hi
          rw [kA] at q1 q2
          obtain ⟨a, A, c, dq, v0, v1, v2, v3, v4, rfl, hs⟩ := open_arow q3 (fun y hy => hw3 y (.inr (.inl (weightsAll_mem (List.mem_map.2 ⟨elems[i], List.getElem_mem hi, rfl⟩) hy))))
          exact ⟨a, fun _ => ⟨A, c, dq, v0, v1, v2, v3, v4, q2, hs⟩⟩
        · exact ⟨zA, fun h => absurd h hi⟩
      obtain ⟨l, hll⟩ : ∃ l : List ArgP, l = (List.range len).map fun i => (each i).choose := ⟨_, rfl⟩
      have hlen' : l.length = len := by rw [hll]; simp
      have hget : ∀ i (hi : i < l.length), ∃ (A : Option Addr) (c dq : Nat) (v0 v1 v2 v3 v4 : Value), (∀ j, j < 12 → w.cell? ((ad.add (i * 12)).add j) = (argVs l[i] (.slice A l[i].q.length c) v0 v1 v2 v3 v4)[j]?) ∧ ShowsA w l[i] A c dq v0 v1 v2 v3 v4 := fun i hi => by
        have := (each i).choose_spec (by omega)
        simpa [hll] using this
      clear hll each hall
      subst hlen'
      refine ⟨l, some ad, cap, e4, by omega, hlc, hcm, fun j hj => ?_⟩
      obtain ⟨A, c, dq, v0, v1, v2, v3, v4, g1, g2⟩ := hget j hj
      obtain ⟨bb, o, spot⟩ := ad
      have hspot : spot = none := by
        obtain ⟨A', c', dq', v0', v1', v2', v3', v4', z1, _⟩ := hget 0 (by omega)
        have z3 := z1 0 (by omega)
        have z4 : w.cell? (((⟨bb, o, spot⟩ : Addr).add (0 * 12)).add 0) = some (.bool l[0].is) := z3
        have := World.cell?_spot z4
        simpa [Addr.add] using this
      subst hspot
      have p0 := g1 0 (by omega)
      have p1 := g1 1 (by omega)
      have p2 := g1 2 (by omega)
      have p3 := g1 3 (by omega)
      have p4 := g1 4 (by omega)
      have p5 := g1 5 (by omega)
      have p6 := g1 6 (by omega)
      have p7 := g1 7 (by omega)
      have p8 := g1 8 (by omega)
      have p9 := g1 9 (by omega)
      have p10 := g1 10 (by omega)
      have p11 := g1 11 (by omega)
      simp only [add_plain'] at p0 p1 p2 p3 p4 p5 p6 p7 p8 p9 p10 p11
      exact ⟨bb, o, A, c, dq, v0, v1, v2, v3, v4, rfl, World.block_lt_of_cell? w ⟨bb, o + j * 12 + 0, none⟩ (show _ = some (.bool l[j].is) from p0), g2, ⟨p0, p1, p2⟩, ⟨p3, p4, p5⟩, p6, p7, p8, p9, p10, p11⟩
  obtain ⟨l, A, c, rfl, hL⟩ := hlist
  exact ⟨U, V, b, l, A, c, rfl, by omega, by omega, hL⟩
end

end Go.Proofs.YtpbdnfonflmncaaGreat
