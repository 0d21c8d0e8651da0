/-
  The contract of disk's Rename.
  Conditions: none but sizes.
-/
import Derived.Test.YtngjmeohleoglaaDiO
namespace Go.Proofs.Ytngjmeohleoglaa
open Go.RowKit Go.Shelf
set_option linter.unusedVariables false
set_option linter.unusedSimpArgs false
set_option maxRecDepth 100000

section
variable {w : World} {base nb mb n : Nat} {F : Nat → Prop} {st : DD} {d : Value}
theorem rename_dead (h : DeadD w d) (s t : ByteArray) (hs : s.size ≤ 140737488355328) (ht : t.size ≤ 140737488355328) : Calls Try.prog 28 #[d, .string s, .string t] w fun e w' => e = .returned (.int .i64 1) ∧ Below w.heap.size w w' := by
  obtain ⟨dp, rfl⟩ : ∃ p, d = .pointer p := h.elim (fun e => ⟨_, e⟩) fun ⟨nb, e, _⟩ => ⟨_, e⟩
  exact rename_all dp none s t 1 1 (fun w' => Below w.heap.size w w') hs ht (fun W' hW' => find_dead (h.kept hW') s _) (.inl ⟨by omega, rfl, fun _ h => h⟩)
theorem rename_any (h : DiskM w base nb st F) (hF : F nb) (hb : base ≤ w.heap.size) (hwf : DWf n st) (q r : DName) (hq : q.length ≤ 140737488355328) (hr : r.length ≤ 140737488355328) :
    Calls Try.prog 28 #[.pointer (some ⟨nb, 0, none⟩), .string (str8 q), .string (str8 r)] w (OpSaid w base nb F (renameD st q r)) := by
  have h' := h
  obtain ⟨⟨mb, X, hI, hfoot⟩, hlow⟩ := h'
  unfold OpSaid
  have hfind := fun W' (hW' : Below w.heap.size w W') => find_any (hI.keep (w' := W') fun k hk => hW'.block k (hI.lt k hk)) q hq (okName q && okName r)
  by_cases h0 : findE st q (okName q && okName r) = 0
  · rcases find_said hI q hq (okName q && okName r) with ⟨h1, _⟩ | ⟨hd, hk, A, x, B, rfl, rfl, hf, _⟩
    · exact absurd h0 h1
    have e3 : getA x.q (Lof (A ++ x :: B)) = some x.ptr := getA_of_mem (by simpa [Lof, Function.comp_def] using hI.nodup) (List.mem_map.2 ⟨x, by simp, rfl⟩)
    rw [renameD_ok hd hk hf]
    rw [if_pos h0, h0, e3] at hfind
    refine rename_all (some ⟨nb, 0, none⟩) (some ⟨x.p, 0, none⟩) (str8 x.q) (str8 r) 0 _ _ (by rw [str8_size]; exact hq) (by rw [str8_size]; exact hr) hfind (.inr ⟨rfl, fun W' hW' d1 d2 d3 d4 => ?_⟩)
    have hu := hwf.used
    have hu2 := hwf.room
    exact operate_any (AtD.same h hb hF hW') hd hwf.fuse false 55 _ (eg52 _) (setS r x.f (delA x.q st.fs)) fun _ =>
      (rename1_any (hI.keep (w' := W') fun k hk => hW'.block k (hI.lt k hk)) hf r hq hr (by omega) d1 d2 d3 d4).mono fun e w1 ⟨e1, ⟨Y, e2, e2'⟩, e3⟩ => ⟨e1, AtD.made h hb hF hfoot hW' e2 (e3.mono fun k _ e => .inl (e.elim .inl fun e => .inr (.inl e))) fun k hk => .inl (by
        rcases hk with rfl | rfl | ⟨y, hy, hk⟩
        · exact .inl rfl
        · exact .inr (.inl rfl)
        · obtain ⟨z, hz, z1, z2⟩ := e2' y hy
          exact .inr (.inr ⟨z, hz, by rw [← z1, ← z2]; exact hk⟩))⟩
  · rw [renameD_err h0]
    rw [if_neg h0] at hfind
    exact rename_all (some ⟨nb, 0, none⟩) none (str8 q) (str8 r) _ _ _ (by rw [str8_size]; exact hq) (by rw [str8_size]; exact hr) hfind (.inl ⟨h0, rfl, fun W' hW' => AtD.same h hb hF hW'⟩)
end

end Go.Proofs.Ytngjmeohleoglaa
