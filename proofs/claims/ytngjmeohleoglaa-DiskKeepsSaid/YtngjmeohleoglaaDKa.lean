/-
  DiskKeeps' means: a disk and its copy beside each other; what a failure of the power leaves; a row of integers that came in.
  Conditions: none but sizes.
-/
import Derived.Test.YtngjmeohleoglaaDqR
import Derived.Test.YtngjmeohleoglaaDqS
import Derived.Test.YtngjmeohleoglaaDqT
import Derived.Test.YtngjmeohleoglaaDrC
namespace Go.Proofs.Ytngjmeohleoglaa
open Go.ChangeShapes Go.WideShapes Go.ChangeAt Go.RowKit Go.Shelf
set_option linter.unusedVariables false
set_option linter.unusedSimpArgs false
set_option maxRecDepth 100000

/-- A disk that is up, and no fuse laid. -/
def still (st : DD) : Prop := st.fuse = 0 ∧ st.down = false
theorem op_still {st : DD} (l : Bool) (fs : DRow) (h : still st) : still (opD st l fs).1 := by
  obtain ⟨h1, h2⟩ := h
  unfold opD
  rw [if_neg (by omega)]
  exact ⟨by simp [h1], h2⟩
theorem do_still {st : DD} (x : DAct) (hx : x.what % 9 < 6) (h : still st) : still (doD st x).1 := by
  have e6 : x.what % 9 ≠ 6 := by omega
  have e7 : x.what % 9 ≠ 7 := by omega
  have hcs : x.what % 9 = 0 ∨ x.what % 9 = 1 ∨ x.what % 9 = 2 ∨ x.what % 9 = 3 ∨ x.what % 9 = 4 ∨ x.what % 9 = 5 := by omega
  unfold doD
  rcases hcs with e | e | e | e | e | e
  · rw [if_pos e]
    unfold appendD
    repeat' split
    all_goals first | exact h | exact op_still _ _ h
  · rw [if_neg (by omega), if_pos e]
    unfold syncD
    repeat' split
    all_goals first | exact h | exact op_still _ _ h
  · rw [if_neg (by omega), if_neg (by omega), if_pos e]
    unfold cutD
    repeat' split
    all_goals first | exact h | exact op_still _ _ h
  · rw [if_neg (by omega), if_neg (by omega), if_neg (by omega), if_pos e]
    unfold renameD
    repeat' split
    all_goals first | exact h | exact op_still _ _ h
  · rw [if_neg (by omega), if_neg (by omega), if_neg (by omega), if_neg (by omega), if_pos e]
    unfold removeD
    repeat' split
    all_goals first | exact h | exact op_still _ _ h
  · rw [if_neg (by omega), if_neg (by omega), if_neg (by omega), if_neg (by omega), if_neg (by omega), if_pos e]
    exact h

/-- How many bytes the file has behind the failure. -/
def leftN (keep : List Int) (i : Nat) (f : FD) : Nat := f.safe + keepN keep i f
theorem left_le {n : Nat} {st : DD} (h : DWf n st) (keep : List Int) (k : Nat) (hk : k < st.fs.length) : st.fs[k].2.safe ≤ leftN keep k st.fs[k].2 ∧ leftN keep k st.fs[k].2 ≤ st.fs[k].2.b.length := by
  have hs : st.fs[k].2.safe ≤ st.fs[k].2.b.length := (h.each _ (List.getElem_mem hk)).2.2
  unfold leftN keepN
  refine ⟨Nat.le_add_right _ _, ?_⟩
  split <;> omega
theorem wake_crash (st : DD) (keep : List Int) : wakeD (crashD st) keep = { st with fuse := 0, down := false, fs := wakeL keep st.fs } := rfl
theorem wake_names (keep : List Int) (l : DRow) : (wakeL keep l).map (·.1) = l.map (·.1) := by
  unfold wakeL
  apply List.ext_getElem
  · simp
  · intro i h1 h2
    simp
theorem read_woken {n : Nat} {st : DD} (keep : List Int) (h : DWf n (wakeD (crashD st) keep)) (k : Nat) (hk : k < st.fs.length) :
    readD (wakeD (crashD st) keep) (st.fs[k].1) = (st.fs[k].2.b.take (leftN keep k st.fs[k].2), leftN keep k st.fs[k].2, 0) := by
  have hk2 : k < (wakeD (crashD st) keep).fs.length := by simp [wake_crash, wakeL]; exact hk
  have := read_listed h rfl k hk2
  have e : (wakeD (crashD st) keep).fs[k] = (st.fs[k].1, wakeF keep k st.fs[k].2) := by
    show (wakeL keep st.fs)[k]'(by simpa [wakeL] using hk) = _
    unfold wakeL
    simp
  rw [e] at this
  exact this

/-- A disk, and a copy of it in blocks apart. -/
structure TwoD (w0 : World) (base nb n : Nat) (st : DD) (cb m : Nat) (sc : DD) (w : World) : Prop where
  all : ∃ F F', DiskM w base nb st F ∧ F nb ∧ DiskM w cb cb sc F' ∧ F' cb ∧ ∀ k, F k → ¬ F' k
  bel : Below base w0 w
  fit : base ≤ w.heap.size
  wf : DWf n st
  wc : DWf m sc

section
variable {w0 w w' : World} {base nb n cb m n' : Nat} {st st' sc : DD}
theorem TwoD.prog (h : TwoD w0 base nb n st cb m sc w) : ∃ F, DiskM w base nb st F ∧ F nb ∧ ∀ w' st' n', AtD w base nb F st' w' → DWf n' st' → TwoD w0 base nb n' st' cb m sc w' := by
  obtain ⟨⟨F, F', h1, h2, h3, h4, h5⟩, h6, h7, h8, h9⟩ := h
  refine ⟨F, h1, h2, fun w' st' n' ha hw => ⟨⟨newer F w w', F', ha.disk, .inl ha.has, h3.keep ha.mv (fun k hk e => h5 k e hk), h4, fun k hk e => ?_⟩, Mv.below h6 ha.mv (fun k hk => (h1.2 k hk).1) h7, Nat.le_trans h7 ha.mv.size, hw, h9⟩⟩
  rcases hk with hk | ⟨hk, _⟩
  · exact h5 k hk e
  · have := (h3.2 k e).2
    omega
theorem TwoD.below (h : TwoD w0 base nb n st cb m sc w) (hb : Below w.heap.size w w') : TwoD w0 base nb n st cb m sc w' := by
  obtain ⟨⟨F, F', h1, h2, h3, h4, h5⟩, h6, h7, h8, h9⟩ := h
  have hm : Mv (fun _ => False) w w' := Mv.of_below hb
  exact ⟨⟨F, F', h1.keep hm (fun _ _ e => e), h2, h3.keep hm (fun _ _ e => e), h4, h5⟩, h6.trans (hb.mono h7), Nat.le_trans h7 hb.size, h8, h9⟩
theorem TwoD.live (h : TwoD w0 base nb n st cb m sc w) : LiveD w0 base nb n st w := by
  obtain ⟨⟨F, F', h1, h2, h3, h4, h5⟩, h6, h7, h8, h9⟩ := h
  exact ⟨⟨F, h1, h2⟩, h6, h7, h8⟩
theorem TwoD.was (h : TwoD w0 base nb n st cb m sc w) : LiveD w cb cb m sc w := by
  obtain ⟨⟨F, F', h1, h2, h3, h4, h5⟩, h6, h7, h8, h9⟩ := h
  exact ⟨⟨F', h3, h4⟩, Below.refl _ _, Nat.le_of_lt h3.lt.1, h9⟩
theorem two_start (h : LiveD w0 base nb n st w) {w1 : World} (hC : ∃ F', DiskM w1 w.heap.size w.heap.size st F' ∧ F' w.heap.size) (hb : Below w.heap.size w w1) : TwoD w0 base nb n st w.heap.size n st w1 := by
  obtain ⟨⟨F, h1, h2⟩, h3, h4, h5⟩ := h
  obtain ⟨F', g1, g2⟩ := hC
  refine ⟨⟨F, F', h1.keep (Mv.of_below (F := fun _ => False) hb) (fun _ _ e => e), h2, g1, g2, fun k hk e => ?_⟩, h3.trans (hb.mono h4), Nat.le_trans h4 hb.size, h5, h5⟩
  have := (h1.2 k hk).2
  have := (g1.2 k e).1
  omega
theorem two_crash (h : TwoD w0 base nb n st cb m sc w) :
    Calls Try.prog 14 #[.pointer (some ⟨nb, 0, none⟩)] w fun e w' => e = .returned (.tuple #[]) ∧ TwoD w0 base nb (n + 1) (crashD st) cb m sc w' := by
  obtain ⟨F, hd, hF, hk⟩ := h.prog
  have ha := AtD.start hd h.fit hF
  obtain ⟨_, _, _, hb⟩ := ha.box
  exact (crash_any hb).mono fun e w' ⟨h1, h2⟩ => ⟨h1, by rw [h2]; exact hk _ _ _ ha.crash (crash_wf h.wf)⟩
theorem two_wake (h : TwoD w0 base nb n st cb m sc w) (hn : n ≤ 1000000) (keep : List Int) (vk : Value) (dk : Nat) (hks : ShowsG intC w dk vk keep) (hdk : 0 < keep.length → dk < base) (hkl : keep.length ≤ 140737488355328) (hdn : st.down = true) :
    Calls Try.prog 16 #[.pointer (some ⟨nb, 0, none⟩), vk] w fun e w' => e = .returned (.tuple #[]) ∧ TwoD w0 base nb (n + 1) (wakeD st keep) cb m sc w' := by
  obtain ⟨F, hd, hF, hk⟩ := h.prog
  rcases Nat.eq_zero_or_pos keep.length with hz | hz
  · have hks' : ShowsG intC w w.heap.size vk keep := by
      obtain ⟨A, c, h1, h2, h3, h4⟩ := hks
      exact ⟨A, c, h1, h2, h3, fun h => absurd h (by omega)⟩
    exact (wake_any hd hF h.fit h.wf hn keep vk w.heap.size hks' (fun e => by have := (hd.2 _ e).2; omega) hkl hdn).mono fun e w' ⟨h1, h2⟩ => ⟨h1, hk _ _ _ h2 (wake_wf h.wf _)⟩
  · have hdk' := hdk hz
    exact (wake_any hd hF h.fit h.wf hn keep vk dk hks (fun e => by have := (hd.2 dk e).1; omega) hkl hdn).mono fun e w' ⟨h1, h2⟩ => ⟨h1, hk _ _ _ h2 (wake_wf h.wf _)⟩
/-- A disk, and a new one of the document's that has no room. -/
theorem live_both (h : LiveD w0 base nb n st w) : Both w0 base nb w.heap.size (fun _ => False) n 0 st ⟨0, 0, false, []⟩ (w.alloc (.cells #[.slice none 0 0, .int .i64 (0 : Nat), .int .i64 0, .bool false] 53)) := by
  obtain ⟨⟨F, hd, hF⟩, hb, hfit, hwf⟩ := h
  have hbA : Below w.heap.size w (w.alloc (.cells #[.slice none 0 0, .int .i64 (0 : Nat), .int .i64 0, .bool false] 53)) := (Below.refl _ _).alloc (Nat.le_refl _) _
  have hzA : (w.alloc (.cells #[.slice none 0 0, .int .i64 (0 : Nat), .int .i64 0, .bool false] 53)).heap.size = w.heap.size + 1 := by simp
  refine ⟨⟨F, fun k => k = w.heap.size, .slice none 0 0, hd.keep (Mv.of_below (F := fun _ => False) hbA) (fun _ _ e => e), hF, ?_, fun k hk e => ?_, fun k hk => hk.elim⟩, hb.trans (hbA.mono hfit), by omega, hwf, ⟨List.Pairwise.nil, Nat.zero_le _, Nat.zero_le _, Nat.zero_le _, Nat.zero_le _, by simp⟩⟩
  · refine AtQ.start ⟨?_, OwnG.nil_ _ _ _ _, by omega⟩ (fun k hk => by simp [Value.ownBlock] at hk) rfl (fun k hk => by omega) (by omega)
    show BoxQ _ _ _ _ _ _
    unfold BoxQ
    exact heap_alloc_new w _
  · have := (hd.2 k hk).2
    omega
end

/-- A row of integers that came in. -/
theorem open_introw {H : Type} {enc : TypeId × Value → H} {w : World} {base : Nat} {spare : Nat → Bool} {held : Bool} {r : Reach} {b0 : Nat} {v : Value} {d : DataW H} {p : List MemPlace} (hv : Value.okWide Try.prog w r b0 28 v) (h : DataW.Trod enc Try.prog w base spare held 28 v d p)
    {ts : List TypeId} {ds : List (DataW H)} (hsz : (DataW.weightsEach Try.prog ts ds).all (· ≤ reachBytes) = true) (j : Nat) (hj : ts[j]? = some 28) (hd : ds[j]? = some d) :
    ∃ (A : Option Addr) (c d0 : Nat) (l : List Int), v = .slice A l.length c ∧ ShowsG intC w d0 (.slice A l.length c) l ∧ l.length ≤ 17592186043904 ∧ (0 < l.length → d0 < w.heap.size) ∧ (l.length = 0 → d0 = 0) := by
  have hb : reachBytes = 140737488351232 := by decide
  have hw : ∀ x, x ∈ DataW.weights (H := H) Try.prog 28 d → x ≤ 140737488351232 := fun x hx => by
    have := List.all_eq_true.1 hsz _ (DataW.weights_mem_each hj hd x hx)
    rw [← hb]
    simpa using this
  obtain ⟨fuel, hf⟩ := h
  obtain ⟨A, n, c, rfl⟩ := okWide_slice Try.underlying28 hv
  obtain ⟨A', c', d0, l, h1, h2, h3, h4, h5⟩ := open_ints hf hw
  simp [Value.cells] at h1
  obtain ⟨rfl, rfl, rfl⟩ := h1
  exact ⟨A, c, d0, l, rfl, h2, h3, h4, h5⟩

end Go.Proofs.Ytngjmeohleoglaa
