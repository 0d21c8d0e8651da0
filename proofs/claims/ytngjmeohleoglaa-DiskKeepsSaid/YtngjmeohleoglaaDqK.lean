/-
  A disk and a disk of the document's, beside each other: what each call leaves of both.
  Conditions: none but sizes.
-/
import Derived.Test.YtngjmeohleoglaaDqJ
import Derived.Test.YtngjmeohleoglaaDiW
namespace Go.Proofs.Ytngjmeohleoglaa
open Go.RowKit Go.Shelf
set_option linter.unusedVariables false
set_option linter.unusedSimpArgs false
set_option maxRecDepth 100000

/-- Both of them, in blocks apart; the blocks of X are another's. -/
structure Both (w0 : World) (base nb qb : Nat) (X : Nat → Prop) (n m : Nat) (st sq : DD) (w : World) : Prop where
  all : ∃ F G v, DiskM w base nb st F ∧ F nb ∧ AtQ w base qb G v sq w ∧ (∀ k, F k → ¬ G k) ∧ ∀ k, X k → k < w.heap.size ∧ ¬ F k ∧ ¬ G k
  bel : Below base w0 w
  fit : base ≤ w.heap.size
  wf : DWf n st
  wq : DWf m sq

section
variable {w0 w w' : World} {base nb qb n m n' m' : Nat} {st st' sq sq' : DD} {F G X : Nat → Prop} {v v' : Value}
theorem AtQ.start (h : QI w base qb v sq) (hv : ∀ k, v.ownBlock = some k → G k) (hG : G qb) (hl : ∀ k, G k → base ≤ k ∧ k < w.heap.size) (hf : base ≤ w.heap.size) : AtQ w base qb G v sq w :=
  ⟨h, fun k hk => .inl (hv k hk), Mv.refl _ _, hG, hl, hf⟩
/-- From where it is now. -/
theorem AtQ.again (h : AtQ w base qb G v sq w') : AtQ w' base qb (newer G w w') v sq w' :=
  ⟨h.disk, fun k hk => .inl (h.own k hk), Mv.refl _ _, .inl h.has, fun k hk => hk.elim (fun e => ⟨(h.low k e).1, Nat.lt_of_lt_of_le (h.low k e).2 h.mv.size⟩) fun e => ⟨Nat.le_trans h.fit e.1, e.2⟩, Nat.le_trans h.fit h.mv.size⟩
/-- What another's call leaves of it. -/
theorem AtQ.apart (h : AtQ w base qb G v sq w) (hm : Mv F w w') (hd : ∀ k, G k → ¬ F k) : AtQ w' base qb G v sq w' :=
  ⟨h.disk.keep (hm.block _ h.disk.box.lt (hd _ h.has)) (fun g hg => hm.block g (h.disk.row.block g hg).2 (hd g ((h.own g hg).elim id fun e => by omega))), fun k hk => .inl ((h.own k hk).elim id fun e => by omega), Mv.refl _ _, h.has, fun k hk => ⟨(h.low k hk).1, Nat.lt_of_lt_of_le (h.low k hk).2 hm.size⟩, Nat.le_trans h.fit hm.size⟩
theorem Both.prog (h : Both w0 base nb qb X n m st sq w) : ∃ F, DiskM w base nb st F ∧ F nb ∧ ∀ w' st' n', AtD w base nb F st' w' → DWf n' st' → Both w0 base nb qb X n' m st' sq w' ∧ ∀ k, X k → w'.heap[k]? = w.heap[k]? := by
  obtain ⟨⟨F, G, v, h1, h2, h3, h4, h9⟩, h5, h6, h7, h8⟩ := h
  refine ⟨F, h1, h2, fun w' st' n' ha hw => ⟨⟨⟨newer F w w', G, v, ha.disk, .inl ha.has, h3.apart ha.mv (fun k hk e => h4 k e hk), fun k hk e => ?_, fun k hk => ⟨Nat.lt_of_lt_of_le (h9 k hk).1 ha.mv.size, fun e => ?_, (h9 k hk).2.2⟩⟩, Mv.below h5 ha.mv (fun k hk => (h1.2 k hk).1) h6, Nat.le_trans h6 ha.mv.size, hw, h8⟩, fun k hk => ha.mv.block k (h9 k hk).1 (h9 k hk).2.1⟩⟩
  · rcases hk with hk | ⟨hk, _⟩
    · exact h4 k hk e
    · have := (h3.low k e).2
      omega
  · rcases e with e | ⟨e, _⟩
    · exact (h9 k hk).2.1 e
    · have := (h9 k hk).1
      omega
theorem Both.doc (h : Both w0 base nb qb X n m st sq w) : ∃ G v, AtQ w base qb G v sq w ∧ ∀ w' v' sq' m', AtQ w base qb G v' sq' w' → DWf m' sq' → Both w0 base nb qb X n m' st sq' w' ∧ ∀ k, X k → w'.heap[k]? = w.heap[k]? := by
  obtain ⟨⟨F, G, v, h1, h2, h3, h4, h9⟩, h5, h6, h7, h8⟩ := h
  refine ⟨G, v, h3, fun w' v' sq' m' ha hw => ⟨⟨⟨F, newer G w w', v', h1.keep ha.mv h4, h2, ha.again, fun k hk e => ?_, fun k hk => ⟨Nat.lt_of_lt_of_le (h9 k hk).1 ha.mv.size, (h9 k hk).2.1, fun e => ?_⟩⟩, Mv.below h5 ha.mv (fun k hk => (h3.low k hk).1) h6, Nat.le_trans h6 ha.mv.size, h7, hw⟩, fun k hk => ha.mv.block k (h9 k hk).1 (h9 k hk).2.2⟩⟩
  · rcases e with e | ⟨e, _⟩
    · exact h4 k hk e
    · have := (h1.2 k hk).2
      omega
  · rcases e with e | ⟨e, _⟩
    · exact (h9 k hk).2.2 e
    · have := (h9 k hk).1
      omega
/-- What is new beside them. -/
theorem Both.below (h : Both w0 base nb qb X n m st sq w) (hb : Below w.heap.size w w') {Y : Nat → Prop} (hY : ∀ k, Y k → X k ∨ (w.heap.size ≤ k ∧ k < w'.heap.size)) : Both w0 base nb qb Y n m st sq w' := by
  obtain ⟨⟨F, G, v, h1, h2, h3, h4, h9⟩, h5, h6, h7, h8⟩ := h
  have hm : Mv (fun _ => False) w w' := Mv.of_below hb
  refine ⟨⟨F, G, v, h1.keep hm (fun _ _ e => e), h2, h3.apart hm (fun _ _ e => e), h4, fun k hk => ?_⟩, h5.trans (hb.mono h6), Nat.le_trans h6 hb.size, h7, h8⟩
  rcases hY k hk with e | ⟨e1, e2⟩
  · exact ⟨Nat.lt_of_lt_of_le (h9 k e).1 hb.size, (h9 k e).2⟩
  · refine ⟨e2, fun e => ?_, fun e => ?_⟩
    · have := (h1.2 k e).2
      omega
    · have := (h3.low k e).2
      omega
theorem Both.live (h : Both w0 base nb qb X n m st sq w) : LiveD w0 base nb n st w := by
  obtain ⟨⟨F, G, v, h1, h2, h3, h4, h9⟩, h5, h6, h7, h8⟩ := h
  exact ⟨⟨F, h1, h2⟩, h5, h6, h7⟩
theorem append_two (h : Both w0 base nb qb X n m st sq w) (q : DName) (hq : q.length ≤ 140737488355328) (x : List UInt8) (hx : x.length ≤ 140737488355328) :
    Calls Try.prog 22 #[.pointer (some ⟨nb, 0, none⟩), .string (str8 q), .string (str8 x)] w fun e w' => e = .returned (.int .i64 (appendD st q x).2) ∧ Both w0 base nb qb X (n + 1) m (appendD st q x).1 sq w' ∧ ∀ k, X k → w'.heap[k]? = w.heap[k]? := by
  obtain ⟨F, hd, hF, hk⟩ := h.prog
  exact (append_any hd hF h.fit h.wf q hq (str8 x) (by rw [str8_size]; exact hx)).mono fun e w' ⟨h1, h2⟩ => ⟨h1, hk _ _ _ h2 (append_wf h.wf _ _)⟩
theorem sync_two (h : Both w0 base nb qb X n m st sq w) (q : DName) (hq : q.length ≤ 140737488355328) :
    Calls Try.prog 23 #[.pointer (some ⟨nb, 0, none⟩), .string (str8 q)] w fun e w' => e = .returned (.int .i64 (syncD st q).2) ∧ Both w0 base nb qb X (n + 1) m (syncD st q).1 sq w' ∧ ∀ k, X k → w'.heap[k]? = w.heap[k]? := by
  obtain ⟨F, hd, hF, hk⟩ := h.prog
  exact (sync_any hd hF h.fit h.wf q hq).mono fun e w' ⟨h1, h2⟩ => ⟨h1, hk _ _ _ h2 (sync_wf h.wf _)⟩
theorem cut_two (h : Both w0 base nb qb X n m st sq w) (q : DName) (hq : q.length ≤ 140737488355328) (k : Int) :
    Calls Try.prog 26 #[.pointer (some ⟨nb, 0, none⟩), .string (str8 q), .int .i64 k] w fun e w' => e = .returned (.int .i64 (cutD st q k).2) ∧ Both w0 base nb qb X (n + 1) m (cutD st q k).1 sq w' ∧ ∀ k, X k → w'.heap[k]? = w.heap[k]? := by
  obtain ⟨F, hd, hF, hk⟩ := h.prog
  exact (cut_any hd hF h.fit h.wf q hq k).mono fun e w' ⟨h1, h2⟩ => ⟨h1, hk _ _ _ h2 (cut_wf h.wf _ _)⟩
theorem rename_two (h : Both w0 base nb qb X n m st sq w) (q : DName) (hq : q.length ≤ 140737488355328) (r : DName) (hr : r.length ≤ 140737488355328) :
    Calls Try.prog 28 #[.pointer (some ⟨nb, 0, none⟩), .string (str8 q), .string (str8 r)] w fun e w' => e = .returned (.int .i64 (renameD st q r).2) ∧ Both w0 base nb qb X (n + 1) m (renameD st q r).1 sq w' ∧ ∀ k, X k → w'.heap[k]? = w.heap[k]? := by
  obtain ⟨F, hd, hF, hk⟩ := h.prog
  exact (rename_any hd hF h.fit h.wf q r hq hr).mono fun e w' ⟨h1, h2⟩ => ⟨h1, hk _ _ _ h2 (rename_wf h.wf _ _)⟩
theorem remove_two (h : Both w0 base nb qb X n m st sq w) (q : DName) (hq : q.length ≤ 140737488355328) :
    Calls Try.prog 30 #[.pointer (some ⟨nb, 0, none⟩), .string (str8 q)] w fun e w' => e = .returned (.int .i64 (removeD st q).2) ∧ Both w0 base nb qb X (n + 1) m (removeD st q).1 sq w' ∧ ∀ k, X k → w'.heap[k]? = w.heap[k]? := by
  obtain ⟨F, hd, hF, hk⟩ := h.prog
  exact (remove_any hd hF h.fit h.wf q hq).mono fun e w' ⟨h1, h2⟩ => ⟨h1, hk _ _ _ h2 (remove_wf h.wf _)⟩
theorem qappend_two (h : Both w0 base nb qb X n m st sq w) (hm : m ≤ 1000000) (q : DName) (hq : q.length ≤ 140737488355328) (x : List UInt8) (hx : x.length ≤ 140737488355328) :
    Calls Try.prog 24 #[.pointer (some ⟨qb, 0, none⟩), .string (str8 q), .string (str8 x)] w fun e w' => e = .returned (.int .i64 (appendD sq q x).2) ∧ Both w0 base nb qb X n (m + 1) st (appendD sq q x).1 w' ∧ ∀ k, X k → w'.heap[k]? = w.heap[k]? := by
  obtain ⟨G, v, hq0, hk⟩ := h.doc
  exact (qappend_any hq0 h.wq hm q hq x hx).mono fun e w' ⟨h1, v', h2⟩ => ⟨h1, hk _ _ _ _ h2 (append_wf h.wq _ _)⟩
theorem qsync_two (h : Both w0 base nb qb X n m st sq w) (hm : m ≤ 1000000) (q : DName) (hq : q.length ≤ 140737488355328) :
    Calls Try.prog 25 #[.pointer (some ⟨qb, 0, none⟩), .string (str8 q)] w fun e w' => e = .returned (.int .i64 (syncD sq q).2) ∧ Both w0 base nb qb X n (m + 1) st (syncD sq q).1 w' ∧ ∀ k, X k → w'.heap[k]? = w.heap[k]? := by
  obtain ⟨G, v, hq0, hk⟩ := h.doc
  exact (qsync_any hq0 h.wq hm q).mono fun e w' ⟨h1, v', h2⟩ => ⟨h1, hk _ _ _ _ h2 (sync_wf h.wq _)⟩
theorem qcut_two (h : Both w0 base nb qb X n m st sq w) (hm : m ≤ 1000000) (q : DName) (hq : q.length ≤ 140737488355328) (k : Int) :
    Calls Try.prog 27 #[.pointer (some ⟨qb, 0, none⟩), .string (str8 q), .int .i64 k] w fun e w' => e = .returned (.int .i64 (cutD sq q k).2) ∧ Both w0 base nb qb X n (m + 1) st (cutD sq q k).1 w' ∧ ∀ k, X k → w'.heap[k]? = w.heap[k]? := by
  obtain ⟨G, v, hq0, hk⟩ := h.doc
  exact (qcut_any hq0 h.wq hm q k).mono fun e w' ⟨h1, v', h2⟩ => ⟨h1, hk _ _ _ _ h2 (cut_wf h.wq _ _)⟩
theorem qrename_two (h : Both w0 base nb qb X n m st sq w) (hm : m ≤ 1000000) (q : DName) (hq : q.length ≤ 140737488355328) (r : DName) (hr : r.length ≤ 140737488355328) :
    Calls Try.prog 29 #[.pointer (some ⟨qb, 0, none⟩), .string (str8 q), .string (str8 r)] w fun e w' => e = .returned (.int .i64 (renameD sq q r).2) ∧ Both w0 base nb qb X n (m + 1) st (renameD sq q r).1 w' ∧ ∀ k, X k → w'.heap[k]? = w.heap[k]? := by
  obtain ⟨G, v, hq0, hk⟩ := h.doc
  exact (qrename_any hq0 h.wq hm q r hq hr).mono fun e w' ⟨h1, v', h2⟩ => ⟨h1, hk _ _ _ _ h2 (rename_wf h.wq _ _)⟩
theorem qremove_two (h : Both w0 base nb qb X n m st sq w) (hm : m ≤ 1000000) (q : DName) (hq : q.length ≤ 140737488355328) :
    Calls Try.prog 31 #[.pointer (some ⟨qb, 0, none⟩), .string (str8 q)] w fun e w' => e = .returned (.int .i64 (removeD sq q).2) ∧ Both w0 base nb qb X n (m + 1) st (removeD sq q).1 w' ∧ ∀ k, X k → w'.heap[k]? = w.heap[k]? := by
  obtain ⟨G, v, hq0, hk⟩ := h.doc
  exact (qremove_any hq0 h.wq hm q).mono fun e w' ⟨h1, v', h2⟩ => ⟨h1, hk _ _ _ _ h2 (remove_wf h.wq _)⟩
theorem qcrash_two (h : Both w0 base nb qb X n m st sq w) (hm : m ≤ 1000000) :
    Calls Try.prog 35 #[.pointer (some ⟨qb, 0, none⟩)] w fun e w' => e = .returned (.tuple #[]) ∧ Both w0 base nb qb X n (m + 1) st (crashD sq) w' ∧ ∀ k, X k → w'.heap[k]? = w.heap[k]? := by
  obtain ⟨G, v, hq0, hk⟩ := h.doc
  exact (qcrash_any hq0).mono fun e w' ⟨h1, v', h2⟩ => ⟨h1, hk _ _ _ _ h2 (crash_wf h.wq)⟩
theorem qfuse_two (h : Both w0 base nb qb X n m st sq w) (hm : m ≤ 1000000) (k : Int) (hk9 : k ≤ 9223372036854775807) :
    Calls Try.prog 34 #[.pointer (some ⟨qb, 0, none⟩), .int .i64 k] w fun e w' => e = .returned (.tuple #[]) ∧ Both w0 base nb qb X n (m + 1) st (fuseD sq k) w' ∧ ∀ k, X k → w'.heap[k]? = w.heap[k]? := by
  obtain ⟨G, v, hq0, hk⟩ := h.doc
  exact (qfuse_any hq0 k).mono fun e w' ⟨h1, v', h2⟩ => ⟨h1, hk _ _ _ _ h2 (fuse_wf h.wq hk9)⟩
theorem qwake_two (h : Both w0 base nb qb X n m st sq w) (hm : m ≤ 1000000) (keep : List Int) (vk : Value) (dk : Nat) (hks : ShowsG intC w dk vk keep) (hdk : dk < base) (hkl : keep.length ≤ 140737488355328) :
    Calls Try.prog 36 #[.pointer (some ⟨qb, 0, none⟩), vk] w fun e w' => e = .returned (.tuple #[]) ∧ Both w0 base nb qb X n (m + 1) st (wakeD sq keep) w' ∧ ∀ k, X k → w'.heap[k]? = w.heap[k]? := by
  obtain ⟨G, v, hq0, hk⟩ := h.doc
  exact (qwake_any hq0 h.wq hm keep vk dk hks (fun e => by have := (hq0.low qb hq0.has).1; omega) (fun e => by have := hq0.disk.row.block dk e; omega) hkl).mono fun e w' ⟨h1, v', h2⟩ => ⟨h1, hk _ _ _ _ h2 (wake_wf h.wq _)⟩
theorem qread_two (h : Both w0 base nb qb X n m st sq w) (hm : m ≤ 1000000) (q : DName) :
    Calls Try.prog 32 #[.pointer (some ⟨qb, 0, none⟩), .string (str8 q)] w fun e w' => e = .returned (.tuple #[.string (str8 (readD sq q).1), .int .i64 (readD sq q).2.1, .int .i64 (readD sq q).2.2]) ∧ Both w0 base nb qb X n m st sq w' ∧ ∀ k, X k → w'.heap[k]? = w.heap[k]? := by
  obtain ⟨G, v, hq0, hk⟩ := h.doc
  exact (qread_any hq0 h.wq hm q).mono fun e w' ⟨h1, v', h2⟩ => ⟨h1, hk _ _ _ _ h2 h.wq⟩
theorem crash_two (h : Both w0 base nb qb X n m st sq w) :
    Calls Try.prog 14 #[.pointer (some ⟨nb, 0, none⟩)] w fun e w' => e = .returned (.tuple #[]) ∧ Both w0 base nb qb X (n + 1) m (crashD st) sq w' ∧ ∀ k, X k → w'.heap[k]? = w.heap[k]? := by
  obtain ⟨F, hd, hF, hk⟩ := h.prog
  have ha := AtD.start hd h.fit hF
  obtain ⟨_, _, _, hb⟩ := ha.box
  exact (crash_any hb).mono fun e w' ⟨h1, h2⟩ => ⟨h1, by rw [h2]; exact hk _ _ _ ha.crash (crash_wf h.wf)⟩
theorem fuse_two (h : Both w0 base nb qb X n m st sq w) (k : Int) (hk9 : k ≤ 9223372036854775807) :
    Calls Try.prog 33 #[.pointer (some ⟨nb, 0, none⟩), .int .i64 k] w fun e w' => e = .returned (.tuple #[]) ∧ Both w0 base nb qb X (n + 1) m (fuseD st k) sq w' ∧ ∀ k, X k → w'.heap[k]? = w.heap[k]? := by
  obtain ⟨F, hd, hF, hk⟩ := h.prog
  have ha := AtD.start hd h.fit hF
  obtain ⟨_, _, _, hb⟩ := ha.box
  refine (fuse_any hb k).mono fun e w' ⟨h1, h2⟩ => ⟨h1, ?_⟩
  rw [h2]
  have hw := fuse_wf h.wf hk9
  unfold fuseD at hw ⊢
  cases hdn : st.down
  · rw [hdn] at hw
    have h3 := ha.setFuse k.toNat
    rw [hdn] at h3
    exact hk _ _ _ h3 hw
  · rw [hdn] at hw
    exact hk _ _ _ ha hw
theorem wake_two (h : Both w0 base nb qb X n m st sq w) (hn : n ≤ 1000000) (keep : List Int) (vk : Value) (dk : Nat) (hks : ShowsG intC w dk vk keep) (hdk : dk < base) (hkl : keep.length ≤ 140737488355328) :
    Calls Try.prog 16 #[.pointer (some ⟨nb, 0, none⟩), vk] w fun e w' => e = .returned (.tuple #[]) ∧ Both w0 base nb qb X (n + 1) m (wakeD st keep) sq w' ∧ ∀ k, X k → w'.heap[k]? = w.heap[k]? := by
  obtain ⟨F, hd, hF, hk⟩ := h.prog
  have ha := AtD.start hd h.fit hF
  obtain ⟨r1, u1, m1, hb⟩ := ha.box
  cases hdn : st.down
  · rw [hdn] at hb
    refine (wake_up (x := ⟨[], st.fuse, .bool true, ⟨[], 0⟩⟩) (mb := m1) (base := u1) (n := r1) hb vk).mono fun e w' ⟨h1, h2⟩ => ⟨h1, ?_⟩
    have hw := wake_wf h.wf keep
    unfold wakeD at hw ⊢
    rw [hdn] at hw ⊢
    rw [h2]
    exact hk _ _ _ ha hw
  · exact (wake_any hd hF h.fit h.wf hn keep vk dk hks (fun e => by have := (hd.2 dk e).1; omega) hkl hdn).mono fun e w' ⟨h1, h2⟩ => ⟨h1, hk _ _ _ h2 (wake_wf h.wf _)⟩
end

end Go.Proofs.Ytngjmeohleoglaa
