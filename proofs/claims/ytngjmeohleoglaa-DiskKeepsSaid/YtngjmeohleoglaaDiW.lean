/-
  The law's head, of disks.
  Conditions: none.
-/
import Derived.Test.YtngjmeohleoglaaDiP2
import Derived.Test.YtngjmeohleoglaaDiS
import Derived.Test.YtngjmeohleoglaaDiQ
import Derived.Test.YtngjmeohleoglaaDiN
namespace Go.Proofs.Ytngjmeohleoglaa
open Go.RowKit Go.Shelf
set_option linter.unusedVariables false
set_option linter.unusedSimpArgs false
set_option maxRecDepth 100000

/-- A disk of the call's own. -/
structure LiveD (w0 : World) (base nb n : Nat) (st : DD) (w : World) : Prop where
  disk : ∃ F, DiskM w base nb st F ∧ F nb
  bel : Below base w0 w
  fit : base ≤ w.heap.size
  wf : DWf n st

section
variable {w0 w w' : World} {base nb n m : Nat} {st st' : DD} {F : Nat → Prop}
theorem LiveD.at_ (h : LiveD w0 base nb n st w) {F : Nat → Prop} (hd : DiskM w base nb st F) (ha : AtD w base nb F st' w') (hw : DWf m st') : LiveD w0 base nb m st' w' :=
  ⟨⟨_, ha.disk, .inl ha.has⟩, Mv.below h.bel ha.mv (fun k hk => (hd.2 k hk).1) h.fit, Nat.le_trans h.fit ha.mv.size, hw⟩
theorem LiveD.kept (h : LiveD w0 base nb n st w) (hb : Below w.heap.size w w') : LiveD w0 base nb n st w' := by
  obtain ⟨⟨F, hd, hF⟩, h1, h2, h3⟩ := h
  exact ⟨⟨F, hd.keep (Mv.of_below (F := fun _ => False) hb) (fun _ _ e => e), hF⟩, h1.trans (hb.mono h2), Nat.le_trans h2 hb.size, h3⟩
theorem new_live (k : Nat) (w : World) (hk : k ≤ 9223372036854775807) : LiveD w w.heap.size (w.heap.size + 1) 0 ⟨k, 0, false, []⟩ ((w.alloc (.map #[] 0)).alloc (.cells #[.int .i64 k, .int .i64 0, .map (some w.heap.size), .int .i64 0, .bool false] 50)) := by
  have hmap := MapS.new strFam w
  have hb2 : Below w.heap.size w ((w.alloc (.map #[] 0)).alloc (.cells #[.int .i64 k, .int .i64 0, .map (some w.heap.size), .int .i64 0, .bool false] 50)) := below_box2K _ _ _
  refine ⟨⟨fun j => j = w.heap.size ∨ j = w.heap.size + 1, ⟨⟨w.heap.size, [], ⟨?_, ?_, List.Perm.refl _, by simp, List.Pairwise.nil, ?_⟩, ?_⟩, ?_⟩, .inr rfl⟩, hb2, hb2.size, ⟨List.Pairwise.nil, hk, Nat.zero_le _, Nat.zero_le _, Nat.zero_le _, by simp⟩⟩
  · show BoxD _ (w.heap.size + 1) k 0 w.heap.size 0 false
    unfold BoxD
    rw [← World.size_alloc w (.map #[] 0)]
    exact heap_alloc_new _ _
  · exact hmap.keep (heap_alloc_old _ _ (by simp))
  · rintro j (rfl | rfl | ⟨y, hy, _⟩)
    · omega
    · omega
    · cases hy
  · rintro j (rfl | rfl | ⟨y, hy, _⟩)
    · exact .inr rfl
    · exact .inl rfl
    · cases hy
  · rintro j (rfl | rfl)
    · refine ⟨Nat.le_refl _, ?_⟩
      simp
      omega
    · simp

theorem append_live (h : LiveD w0 base nb n st w) (q : DName) (hq : q.length ≤ 140737488355328) (t : ByteArray) (ht : t.size ≤ 140737488355328) :
    Calls Try.prog 22 #[.pointer (some ⟨nb, 0, none⟩), .string (str8 q), .string t] w fun e w' => e = .returned (.int .i64 (appendD st q (sb t)).2) ∧ LiveD w0 base nb (n + 1) (appendD st q (sb t)).1 w' := by
  obtain ⟨F, hd, hF⟩ := h.disk
  exact (append_any hd hF h.fit h.wf q hq t ht).mono fun e w' ⟨h1, h2⟩ => ⟨h1, h.at_ hd h2 (append_wf h.wf _ _)⟩
theorem sync_live (h : LiveD w0 base nb n st w) (q : DName) (hq : q.length ≤ 140737488355328) :
    Calls Try.prog 23 #[.pointer (some ⟨nb, 0, none⟩), .string (str8 q)] w fun e w' => e = .returned (.int .i64 (syncD st q).2) ∧ LiveD w0 base nb (n + 1) (syncD st q).1 w' := by
  obtain ⟨F, hd, hF⟩ := h.disk
  exact (sync_any hd hF h.fit h.wf q hq).mono fun e w' ⟨h1, h2⟩ => ⟨h1, h.at_ hd h2 (sync_wf h.wf _)⟩
theorem cut_live (h : LiveD w0 base nb n st w) (q : DName) (hq : q.length ≤ 140737488355328) (k : Int) :
    Calls Try.prog 26 #[.pointer (some ⟨nb, 0, none⟩), .string (str8 q), .int .i64 k] w fun e w' => e = .returned (.int .i64 (cutD st q k).2) ∧ LiveD w0 base nb (n + 1) (cutD st q k).1 w' := by
  obtain ⟨F, hd, hF⟩ := h.disk
  exact (cut_any hd hF h.fit h.wf q hq k).mono fun e w' ⟨h1, h2⟩ => ⟨h1, h.at_ hd h2 (cut_wf h.wf _ _)⟩
theorem rename_live (h : LiveD w0 base nb n st w) (q r : DName) (hq : q.length ≤ 140737488355328) (hr : r.length ≤ 140737488355328) :
    Calls Try.prog 28 #[.pointer (some ⟨nb, 0, none⟩), .string (str8 q), .string (str8 r)] w fun e w' => e = .returned (.int .i64 (renameD st q r).2) ∧ LiveD w0 base nb (n + 1) (renameD st q r).1 w' := by
  obtain ⟨F, hd, hF⟩ := h.disk
  exact (rename_any hd hF h.fit h.wf q r hq hr).mono fun e w' ⟨h1, h2⟩ => ⟨h1, h.at_ hd h2 (rename_wf h.wf _ _)⟩
theorem remove_live (h : LiveD w0 base nb n st w) (q : DName) (hq : q.length ≤ 140737488355328) :
    Calls Try.prog 30 #[.pointer (some ⟨nb, 0, none⟩), .string (str8 q)] w fun e w' => e = .returned (.int .i64 (removeD st q).2) ∧ LiveD w0 base nb (n + 1) (removeD st q).1 w' := by
  obtain ⟨F, hd, hF⟩ := h.disk
  exact (remove_any hd hF h.fit h.wf q hq).mono fun e w' ⟨h1, h2⟩ => ⟨h1, h.at_ hd h2 (remove_wf h.wf _)⟩
theorem crash_live (h : LiveD w0 base nb n st w) :
    Calls Try.prog 14 #[.pointer (some ⟨nb, 0, none⟩)] w fun e w' => e = .returned (.tuple #[]) ∧ LiveD w0 base nb (n + 1) (crashD st) w' := by
  obtain ⟨F, hd, hF⟩ := h.disk
  have ha := AtD.start hd h.fit hF
  obtain ⟨_, _, _, hb⟩ := ha.box
  exact (crash_any hb).mono fun e w' ⟨h1, h2⟩ => ⟨h1, by rw [h2]; exact h.at_ hd ha.crash (crash_wf h.wf)⟩
theorem fuse_live (h : LiveD w0 base nb n st w) (k : Int) (hk : k ≤ 9223372036854775807) :
    Calls Try.prog 33 #[.pointer (some ⟨nb, 0, none⟩), .int .i64 k] w fun e w' => e = .returned (.tuple #[]) ∧ LiveD w0 base nb (n + 1) (fuseD st k) w' := by
  obtain ⟨F, hd, hF⟩ := h.disk
  have ha := AtD.start hd h.fit hF
  obtain ⟨_, _, _, hb⟩ := ha.box
  refine (fuse_any hb k).mono fun e w' ⟨h1, h2⟩ => ⟨h1, ?_⟩
  rw [h2]
  have hw := fuse_wf h.wf hk
  unfold fuseD at hw ⊢
  cases hdn : st.down
  · rw [hdn] at hw
    have h3 := ha.setFuse k.toNat
    rw [hdn] at h3
    exact h.at_ hd h3 hw
  · rw [hdn] at hw
    exact h.at_ hd ha hw
theorem wake_liveF (h : LiveD w0 base nb n st w) (hd : DiskM w base nb st F) (hF : F nb) (hn : n ≤ 1000000) (keep : List Int) (vk : Value) (dk : Nat) (hk : ShowsG intC w dk vk keep) (hdk : ¬ F dk) (hkl : keep.length ≤ 140737488355328) :
    Calls Try.prog 16 #[.pointer (some ⟨nb, 0, none⟩), vk] w fun e w' => e = .returned (.tuple #[]) ∧ LiveD w0 base nb (n + 1) (wakeD st keep) w' := by
  have ha := AtD.start hd h.fit hF
  obtain ⟨r1, u1, m1, hb⟩ := ha.box
  cases hdn : st.down
  · rw [hdn] at hb
    refine (wake_up (x := ⟨[], st.fuse, .bool true, ⟨[], 0⟩⟩) (mb := m1) (base := u1) (n := r1) hb vk).mono fun e w' ⟨h1, h2⟩ => ⟨h1, ?_⟩
    have hw := wake_wf h.wf keep
    unfold wakeD at hw ⊢
    rw [hdn] at hw ⊢
    rw [h2]
    exact h.at_ hd ha hw
  · exact (wake_any hd hF h.fit h.wf hn keep vk dk hk hdk hkl hdn).mono fun e w' ⟨h1, h2⟩ => ⟨h1, h.at_ hd h2 (wake_wf h.wf _)⟩
theorem wake_live (h : LiveD w0 base nb n st w) (hn : n ≤ 1000000) (keep : List Int) (vk : Value) (dk : Nat) (hk : ShowsG intC w dk vk keep) (hdk : dk < base) (hkl : keep.length ≤ 140737488355328) :
    Calls Try.prog 16 #[.pointer (some ⟨nb, 0, none⟩), vk] w fun e w' => e = .returned (.tuple #[]) ∧ LiveD w0 base nb (n + 1) (wakeD st keep) w' := by
  obtain ⟨F, hd, hF⟩ := h.disk
  exact wake_liveF h hd hF hn keep vk dk hk (fun e => by have := (hd.2 dk e).1; omega) hkl
theorem wake_head (h : LiveD w0 base nb n st w) (hn : n ≤ 1000000) (k : Int) :
    Calls Try.prog 16 #[.pointer (some ⟨nb, 0, none⟩), .slice (some ⟨w.heap.size, 0, none⟩) 1 1] (w.alloc (.cells #[.int .i64 k] 3)) fun e w' => e = .returned (.tuple #[]) ∧ LiveD w0 base nb (n + 1) (wakeD st [k]) w' := by
  obtain ⟨F, hd, hF⟩ := h.disk
  have hb := below_boxK w (Obj.cells #[.int .i64 k] 3)
  exact wake_liveF (h.kept hb) (hd.keep (Mv.of_below (F := fun _ => False) hb) (fun _ _ e => e)) hF hn [k] _ w.heap.size (ShowsG.lit (C := intC) (w := w) [k] rfl (by simp [maxLen])) (fun e => by have := (hd.2 _ e).2; omega) (by simp)
theorem read_live (h : LiveD w0 base nb n st w) (q : DName) (hq : q.length ≤ 140737488355328) :
    Calls Try.prog 18 #[.pointer (some ⟨nb, 0, none⟩), .string (str8 q)] w fun e w' => e = .returned (.tuple #[.string (str8 (readD st q).1), .int .i64 (readD st q).2.2]) ∧ w' = w := by
  obtain ⟨F, ⟨⟨mb, X, hI, _⟩, _⟩, hF⟩ := h.disk
  exact read_any hI q hq
theorem safe_live (h : LiveD w0 base nb n st w) (q : DName) (hq : q.length ≤ 140737488355328) :
    Calls Try.prog 19 #[.pointer (some ⟨nb, 0, none⟩), .string (str8 q)] w fun e w' => e = .returned (.tuple #[.int .i64 (readD st q).2.1, .int .i64 (readD st q).2.2]) ∧ w' = w := by
  obtain ⟨F, ⟨⟨mb, X, hI, _⟩, _⟩, hF⟩ := h.disk
  exact safe_any hI q hq
theorem used_live (h : LiveD w0 base nb n st w) : Calls Try.prog 21 #[.pointer (some ⟨nb, 0, none⟩)] w fun e w' => e = .returned (.int .i64 (usedL st.fs)) ∧ w' = w := by
  obtain ⟨F, ⟨⟨mb, X, hI, _⟩, _⟩, hF⟩ := h.disk
  exact used_any hI.box
theorem down_live (h : LiveD w0 base nb n st w) : Calls Try.prog 15 #[.pointer (some ⟨nb, 0, none⟩)] w fun e w' => e = .returned (.bool st.down) ∧ w' = w := by
  obtain ⟨F, ⟨⟨mb, X, hI, _⟩, _⟩, hF⟩ := h.disk
  exact down_any hI.box
theorem list_live (h : LiveD w0 base nb n st w) (hn : n ≤ 1000000) : Calls Try.prog 17 #[.pointer (some ⟨nb, 0, none⟩)] w fun e w' => ∃ v, e = .returned v ∧ OwnG nameC 9 w' w.heap.size v (st.fs.map (·.1)) ∧ Below w.heap.size w w' := by
  obtain ⟨F, ⟨⟨mb, X, hI, _⟩, _⟩, hF⟩ := h.disk
  exact list_any hI h.wf.rising (by have := h.wf.count; omega) (fun x hx => by
    have : (x.q, x.f) ∈ st.fs := hI.perm.mem_iff.1 (List.mem_map.2 ⟨x, hx, rfl⟩)
    have := (h.wf.each _ this).1
    simp only at this
    omega)

def hd0 : DD := ⟨9, 0, false, []⟩
def hd1 : DD := ⟨9, 0, false, [([97], ⟨[120, 121, 122], 0⟩)]⟩
def hd2 : DD := ⟨9, 0, false, [([97], ⟨[120, 121, 122], 3⟩)]⟩
def hd3 : DD := ⟨9, 0, false, [([97], ⟨[120, 121, 122, 49, 50], 3⟩)]⟩
def hd4 : DD := ⟨9, 0, true, [([97], ⟨[120, 121, 122, 49, 50], 3⟩)]⟩
def hd5 : DD := ⟨9, 0, false, [([97], ⟨[120, 121, 122, 49], 4⟩)]⟩
theorem hd_1 : appendD hd0 [97] (sb ⟨#[120, 121, 122]⟩) = (hd1, 0) := by kernel_rfl
theorem hd_2 : syncD hd1 [97] = (hd2, 0) := by kernel_rfl
theorem hd_3 : appendD hd2 [97] (sb ⟨#[49, 50]⟩) = (hd3, 0) := by kernel_rfl
theorem hd_4 : crashD hd3 = hd4 := by kernel_rfl
theorem hd_5 : wakeD hd4 [1] = hd5 := by kernel_rfl
theorem hd_6 : readD hd5 [97] = ([120, 121, 122, 49], 4, 0) := by kernel_rfl
theorem hd_7 : appendD hd5 [98] (sb ⟨#[48, 49, 50, 51, 52, 53, 54, 55, 56, 57]⟩) = (hd5, 6) := by kernel_rfl
theorem hd_8 : usedL hd5.fs = 4 := by kernel_rfl

set_option maxHeartbeats 1000000 in
theorem head_any (w : World) : Calls Try.prog 10 #[] w fun e w' => e = .returned (.bool true) ∧ Below w.heap.size w w' := by
  have HN := Lib.hid (new_any 9 w)
  have hl0 : LiveD w w.heap.size (w.heap.size + 1) 0 hd0 ((w.alloc (.map #[] 0)).alloc (.cells #[.int .i64 9, .int .i64 0, .map (some w.heap.size), .int .i64 0, .bool false] 50)) := new_live 9 w (by omega)
  have HA := Lib.hid (show ∀ n w', LiveD w w.heap.size (w.heap.size + 1) n hd0 w' → Calls Try.prog 22 #[.pointer (some ⟨w.heap.size + 1, 0, none⟩), .string ⟨#[97]⟩, .string ⟨#[120, 121, 122]⟩] w' fun e w'' => e = .returned (.int .i64 0) ∧ LiveD w w.heap.size (w.heap.size + 1) (n + 1) hd1 w'' from fun n w' h => by
    have := append_live h [97] (by simp) ⟨#[120, 121, 122]⟩ (by simp [ByteArray.size])
    rw [hd_1] at this
    exact this)
  have HB := Lib.hid (show ∀ n w', LiveD w w.heap.size (w.heap.size + 1) n hd1 w' → Calls Try.prog 23 #[.pointer (some ⟨w.heap.size + 1, 0, none⟩), .string ⟨#[97]⟩] w' fun e w'' => e = .returned (.int .i64 0) ∧ LiveD w w.heap.size (w.heap.size + 1) (n + 1) hd2 w'' from fun n w' h => by
    have := sync_live h [97] (by simp)
    rw [hd_2] at this
    exact this)
  have HC := Lib.hid (show ∀ n w', LiveD w w.heap.size (w.heap.size + 1) n hd2 w' → Calls Try.prog 22 #[.pointer (some ⟨w.heap.size + 1, 0, none⟩), .string ⟨#[97]⟩, .string ⟨#[49, 50]⟩] w' fun e w'' => e = .returned (.int .i64 0) ∧ LiveD w w.heap.size (w.heap.size + 1) (n + 1) hd3 w'' from fun n w' h => by
    have := append_live h [97] (by simp) ⟨#[49, 50]⟩ (by simp [ByteArray.size])
    rw [hd_3] at this
    exact this)
  have HD := Lib.hid (fun n w' (h : LiveD w w.heap.size (w.heap.size + 1) n hd3 w') => crash_live h)
  rw [hd_4] at HD
  have HE := Lib.hid (fun n w' (h : LiveD w w.heap.size (w.heap.size + 1) n hd4 w') (hn : n ≤ 1000000) => wake_head h hn 1)
  rw [hd_5] at HE
  have HF := Lib.hid (fun n w' (h : LiveD w w.heap.size (w.heap.size + 1) n hd5 w') => read_live h [97] (by simp))
  rw [hd_6] at HF
  have HG := Lib.hid (show ∀ n w', LiveD w w.heap.size (w.heap.size + 1) n hd5 w' → Calls Try.prog 22 #[.pointer (some ⟨w.heap.size + 1, 0, none⟩), .string ⟨#[98]⟩, .string ⟨#[48, 49, 50, 51, 52, 53, 54, 55, 56, 57]⟩] w' fun e w'' => e = .returned (.int .i64 6) ∧ LiveD w w.heap.size (w.heap.size + 1) (n + 1) hd5 w'' from fun n w' h => by
    have := append_live h [98] (by simp) ⟨#[48, 49, 50, 51, 52, 53, 54, 55, 56, 57]⟩ (by simp [ByteArray.size])
    rw [hd_7] at this
    exact this)
  have HU := Lib.hid (fun n w' (h : LiveD w w.heap.size (w.heap.size + 1) n hd5 w') => used_live h)
  rw [hd_8] at HU
  have HL := Lib.hid hl0
  clear hl0
  go_enter Try.func10, Try.ntmps10
  go_wp2_with (go_at_call 7; refine HN.out.mono ?_; rintro e wa ⟨rfl, rfl⟩)
  refine (HA.out _ _ HL.out).mono ?_
  rintro e wa ⟨rfl, h1⟩
  go_wp2_with fail
  refine (HB.out _ _ h1).mono ?_
  rintro e wb ⟨rfl, h2⟩
  go_wp2_with fail
  refine (HC.out _ _ h2).mono ?_
  rintro e wc ⟨rfl, h3⟩
  go_wp2_with fail
  refine (HD.out _ _ h3).mono ?_
  rintro e wd ⟨rfl, h4⟩
  go_wp2_with fail
  refine (HE.out _ _ h4 (by omega)).mono ?_
  rintro e we ⟨rfl, h5⟩
  go_wp2_with fail
  refine (HF.out _ _ h5).mono ?_
  rintro e wf ⟨rfl, rfl⟩
  have hstr : (str8 [120, 121, 122, 49]).toList == [120, 121, 122, 49] := by rw [str8_toList]; rfl
  go_wp2_with fail
  refine (HG.out _ _ h5).mono ?_
  rintro e wg ⟨rfl, h6⟩
  go_wp2_with fail
  refine (HU.out _ _ h6).mono ?_
  rintro e wh ⟨rfl, rfl⟩
  go_wp2_with fail
  go_ret
  exact ⟨rfl, h6.bel⟩
end

end Go.Proofs.Ytngjmeohleoglaa
