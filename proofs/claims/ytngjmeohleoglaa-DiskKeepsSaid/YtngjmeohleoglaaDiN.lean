/-
  The contract of disk's Cut.
  Conditions: none but sizes.
-/
import Derived.Test.YtngjmeohleoglaaDiL
namespace Go.Proofs.Ytngjmeohleoglaa
open Go.RowKit Go.Shelf
set_option linter.unusedVariables false
set_option linter.unusedSimpArgs false
set_option maxRecDepth 100000

section
variable {w W w1 : World} {base nb mb n : Nat} {F : Nat → Prop} {st st' : DD} {X Y A B : List PF} {x : PF} {d : Value}
theorem cutD_err {q : DName} {k : Int} (h : findE st q (decide (0 ≤ k)) ≠ 0) : cutD st q k = (st, findE st q (decide (0 ≤ k))) := by
  unfold cutD findE at *
  cases hd : st.down
  · rw [hd] at h
    by_cases hk : 0 ≤ k
    · rw [if_neg (by simp), if_neg (by omega)]
      cases hg : getA q st.fs with
      | none => simp [hk]
      | some f => rw [hg] at h; simp [hk] at h
    · rw [if_neg (by simp), if_pos (by omega)]
      simp [hk]
  · rfl
theorem cutD_long {q : DName} {f : FD} {k : Int} (h : st.down = false) (hg : getA q st.fs = some f) (hk : (f.b.length : Int) < k) : cutD st q k = (st, 2) := by
  unfold cutD; rw [h, hg, if_neg (by simp), if_neg (by omega)]; simp [hk]
theorem cutD_ok {q : DName} {f : FD} {k : Nat} (h : st.down = false) (hg : getA q st.fs = some f) (hk : k ≤ f.b.length) : cutD st q k = opD st false (setS q ⟨f.b.take k, min f.safe k⟩ st.fs) := by
  unfold cutD; rw [h, hg, if_neg (by simp), if_neg (by omega)]
  simp only [Int.toNat_natCast]
  rw [if_neg (by omega)]

theorem cut_dead (h : DeadD w d) (s : ByteArray) (k : Int) : Calls Try.prog 26 #[d, .string s, .int .i64 k] w fun e w' => e = .returned (.int .i64 1) ∧ Below w.heap.size w w' := by
  have hb1 := below_box2K w (Obj.cells #[d] 23) (Obj.cells #[.int .i64 k] 3)
  have hb2 := below_box3K w (Obj.cells #[d] 23) (Obj.cells #[.int .i64 k] 3) (Obj.cells #[.pointer none] 65)
  have HC := Lib.hid (find_dead (h.kept hb1) s (decide (0 ≤ k)))
  clear hb1
  rcases h with rfl | ⟨nb, rfl, h⟩
  all_goals
    go_enter Try.func26, Try.ntmps26
    go_wp2_with (go_at_call 44; refine HC.out.mono ?_; rintro e w1 ⟨rfl, rfl⟩)
    go_ret
    exact ⟨rfl, hb2⟩

theorem cut_any (h : DiskM w base nb st F) (hF : F nb) (hb : base ≤ w.heap.size) (hwf : DWf n st) (q : DName) (hq : q.length ≤ 140737488355328) (k : Int) :
    Calls Try.prog 26 #[.pointer (some ⟨nb, 0, none⟩), .string (str8 q), .int .i64 k] w (OpSaid w base nb F (cutD st q k)) := by
  have h' := h
  obtain ⟨⟨mb, X, hI, hfoot⟩, hlow⟩ := h'
  unfold OpSaid
  have hb0 := below_box2K w (Obj.cells #[.pointer (some ⟨nb, 0, none⟩)] 23) (Obj.cells #[.int .i64 k] 3)
  obtain ⟨W0, hW0⟩ : ∃ W0, W0 = (w.alloc (Obj.cells #[.pointer (some ⟨nb, 0, none⟩)] 23)).alloc (Obj.cells #[.int .i64 k] 3) := ⟨_, rfl⟩
  have b1 : Bx W0 w.heap.size (.pointer (some ⟨nb, 0, none⟩)) 23 := by rw [hW0]; exact (heap_alloc_old _ _ (by simp)).trans (heap_alloc_new w _)
  have b2 : Bx W0 (w.heap.size + 1) (.int .i64 k) 3 := by rw [hW0, ← World.size_alloc w (Obj.cells #[.pointer (some ⟨nb, 0, none⟩)] 23)]; exact heap_alloc_new _ _
  rw [← hW0] at hb0
  have hI0 := hI.keep (w' := W0) fun k hk => hb0.block k (hI.lt k hk)
  have c1 := b1.c
  have c2 := b2.c
  rcases find_said hI0 q hq (decide (0 ≤ k)) with ⟨h0, hc⟩ | ⟨hd, hk0, A, x, B, rfl, rfl, hg, hc⟩
  · rw [cutD_err h0]
    have HA := Lib.hid (fun W (hW : Below w.heap.size w W) => AtD.same h hb hF hW)
    have hb1 := Lib.hid (hb0.alloc hb0.size (Obj.cells #[.pointer none] 65))
    generalize findE st q (decide (0 ≤ k)) = E at *
    have HC := Lib.hid hc
    have t1 : ((E : Int) != 0) = true := by simp; omega
    have HW0 := Lib.hid hW0
    clear hc h0 hI h hlow hfoot hwf hb hb0 b1 b2 hI0 hW0
    go_enter Try.func26, Try.ntmps26
    go_upto_region 1 with fail
    rw [← HW0.out]
    go_wp2_with (go_at_call 44; refine HC.out.mono ?_; rintro e w1 ⟨rfl, rfl⟩)
    go_ret
    exact ⟨rfl, HA.out _ hb1.out⟩
  · have hb1 := hb0.alloc hb0.size (Obj.cells #[.pointer (some ⟨x.p, 0, none⟩)] 65)
    have hfb := Bx.new W0 (.pointer (some ⟨x.p, 0, none⟩)) 65
    obtain ⟨W, hW⟩ : ∃ W, W = W0.alloc (Obj.cells #[.pointer (some ⟨x.p, 0, none⟩)] 65) := ⟨_, rfl⟩
    have hold : ∀ k, k < W0.heap.size → W.heap[k]? = W0.heap[k]? := fun k hk => by rw [hW]; exact heap_alloc_old _ _ hk
    rw [← hW] at hb1 hfb
    have d1 := b1.keep (hold _ b1.lt)
    have d2 := b2.keep (hold _ b2.lt)
    have hIW := hI.keep (w' := W) fun k hk => hb1.block k (hI.lt k hk)
    have hu := hwf.used
    have hu2 := hwf.room
    obtain ⟨_, hl1, hl2⟩ := fit_of hwf hg
    obtain ⟨Ax, cx, hv, _, _⟩ := (hIW.file x (by simp)).2.form
    have e1 : W.cell? ⟨w.heap.size + 1, 0, none⟩ = _ := d2.c
    have e2 : W.cell? ⟨W0.heap.size, 0, none⟩ = _ := hfb.c
    have e3 : W.cell? ⟨x.p, 0, none⟩ = some (.slice Ax x.f.b.length cx) := by rw [← hv]; exact (hIW.file x (by simp)).1.c0
    have e4 : W.cell? ⟨w.heap.size, 0, none⟩ = _ := d1.c
    have HA := Lib.hid (fun W (hW : Below w.heap.size w W) => AtD.same h hb hF hW)
    by_cases hlong : (x.f.b.length : Int) < k
    · rw [cutD_long hd hg hlong]
      have HC := Lib.hid hc
      have HW := Lib.hid hW
      have HW0 := Lib.hid hW0
      have HB := Lib.hid (fun q => below_drewN hb1 q)
      have hdec : decide (0 ≤ k) = true := hk0
      rw [hdec] at HC
      have tl : decide ((x.f.b.length : Int) < k) = true := by simpa using hlong
      clear hc hI h hlow hfoot hwf hb hIW hfb hb1 hW hg hold d1 d2 b1 b2 hI0 hb0 hW0 hu hu2 hl1 hl2 hv hlong hk0
      go_enter Try.func26, Try.ntmps26
      go_upto_region 1 with fail
      rw [← HW0.out]
      go_upto_region 4 with (go_at_call 44; refine HC.out.mono ?_; rintro e w1 ⟨rfl, rfl⟩)
      rw [← HW.out]
      go_quiet (fail)
      go_wp2_with fail
      go_ret
      exact ⟨rfl, HA.out _ (HB.out _)⟩
    · have hk1 : 0 ≤ k := by simpa using hk0
      obtain ⟨m, rfl⟩ := Int.eq_ofNat_of_zero_le hk1
      have hm : m ≤ x.f.b.length := by omega
      rw [cutD_ok hd hg hm]
      have HO := Lib.hid (fun q => operate_any (AtD.same h hb hF (below_drewN hb1 q)) hd hwf.fuse false 54 #[.pointer (some ⟨w.heap.size, 0, none⟩), .pointer (some ⟨W0.heap.size, 0, none⟩), .pointer (some ⟨w.heap.size + 1, 0, none⟩)] (eg51 _) (setS x.q ⟨x.f.b.take m, min x.f.safe m⟩ st.fs) fun _ =>
        (cut1_any (hIW.keep (w' := W.drewN q) fun _ _ => rfl) hg m hm hl1 (by omega) (by have := hb1.size; show base ≤ W.heap.size; omega) (by omega) (show Bx (W.drewN q) _ _ _ from d1) (show Bx (W.drewN q) _ _ _ from hfb) (show Bx (W.drewN q) _ _ _ from d2)).mono fun e w1 ⟨v', e1, e2, e3, e4⟩ => ⟨e1, AtD.made h hb hF hfoot (below_drewN hb1 q) e2 (e3.mono fun k _ e => .inl (e.elim .inl fun e => .inr (.inr ⟨x, by simp, .inl e⟩))) fun k hk => by
          rcases hk with rfl | rfl | ⟨y, hy, hk⟩
          · exact .inl (.inl rfl)
          · exact .inl (.inr (.inl rfl))
          · rcases List.mem_append.1 hy with hy | hy
            · exact .inl (.inr (.inr ⟨y, by simp [hy], hk⟩))
            · rcases List.mem_cons.1 hy with rfl | hy
              · rcases hk with hk | hk
                · exact .inl (.inr (.inr ⟨x, by simp, .inl hk⟩))
                · have := e4 k hk
                  have := hb1.size
                  exact .inr (by show w.heap.size ≤ k; have : W.heap.size ≤ k := e4 k hk; omega)
              · exact .inl (.inr (.inr ⟨y, by simp [hy], hk⟩))⟩)
      have HC := Lib.hid hc
      have HW := Lib.hid hW
      have HW0 := Lib.hid hW0
      have hdec : decide (0 ≤ (m : Int)) = true := hk0
      rw [hdec] at HC
      have tl : decide (x.f.b.length < m) = false := by simp; omega
      clear hc hI h hlow hfoot hwf hb hIW hfb hb1 hW hg hold d1 d2 b1 b2 hI0 hb0 hW0 hu hu2 hl1 hl2 hv hlong hk0 hk1 hm
      go_enter Try.func26, Try.ntmps26
      go_upto_region 1 with fail
      rw [← HW0.out]
      go_upto_region 4 with (go_at_call 44; refine HC.out.mono ?_; rintro e w1 ⟨rfl, rfl⟩)
      rw [← HW.out]
      go_quiet (fail)
      go_wp2_with (go_at_call 47; refine (HO.out _).mono ?_; rintro e w2 ⟨rfl, h2⟩)
      go_ret
      exact ⟨rfl, h2⟩
end

end Go.Proofs.Ytngjmeohleoglaa
