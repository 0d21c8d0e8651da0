/-
  The contracts of disk's Sync, Remove and Cut.
  Conditions: none but sizes.
-/
import Derived.Test.YtngjmeohleoglaaDiF
import Derived.Test.YtngjmeohleoglaaDiD
import Derived.Shelf.Abstract
namespace Go.Proofs.Ytngjmeohleoglaa
open Go.RowKit Go.Shelf
set_option linter.unusedVariables false
set_option linter.unusedSimpArgs false
set_option maxRecDepth 100000

theorem below_boxK (w : World) (o : Obj) : Below w.heap.size w (w.alloc o) := (Below.refl _ _).alloc (Nat.le_refl _) _
section
variable {w W w1 : World} {base nb mb n : Nat} {F : Nat → Prop} {st st' : DD} {X Y A B : List PF} {x : PF} {d : Value}
theorem AtD.made (h : DiskM w base nb st F) (hb : base ≤ w.heap.size) (hF : F nb) (hfoot : ∀ k, footD nb mb X k → F k) (hW : Below w.heap.size w W) (hY : DiskI w1 base nb mb Y st') (hm : Mv (fun k => footD nb mb X k ∨ w.heap.size ≤ k) W w1)
    (hs : ∀ k, footD nb mb Y k → footD nb mb X k ∨ w.heap.size ≤ k) : AtD w base nb F st' w1 := by
  have hsz := hm.size
  have hsW := hW.size
  refine ⟨⟨⟨mb, Y, hY, fun k hk => ?_⟩, fun k hk => ?_⟩, (Mv.of_below (F := F) hW).trans hm fun k hk e => ?_, hF, hb⟩
  · rcases hs k hk with h1 | h1
    · exact .inl (hfoot k h1)
    · exact .inr ⟨h1, hY.lt k hk⟩
  · rcases hk with h1 | h1
    · have := h.2 k h1
      omega
    · omega
  · rcases e with e | e
    · exact hfoot k e
    · omega
theorem AtD.same (h : DiskM w base nb st F) (hb : base ≤ w.heap.size) (hF : F nb) (hW : Below w.heap.size w W) : AtD w base nb F st W := by
  obtain ⟨⟨mb, X, hI, hfoot⟩, hlow⟩ := h
  exact AtD.made ⟨⟨mb, X, hI, hfoot⟩, hlow⟩ hb hF hfoot hW (hI.keep fun k hk => hW.block k (hI.lt k hk)) (Mv.refl _ _) fun k hk => .inl hk

theorem fit_of (h : DWf n st) {q : DName} {f : FD} (hg : getA q st.fs = some f) : q.length ≤ 40 ∧ f.b.length ≤ 1048576 ∧ f.safe ≤ f.b.length := h.each _ (getA_mem hg)

theorem eg50 (caps : Array Value) (w : World) : (callFunc 49 caps).run Try.prog w = .ok (.enter 49 caps) w := enters_of Try.func49 (by kernel_rfl) rfl caps w
theorem eg51 (caps : Array Value) (w : World) : (callFunc 54 caps).run Try.prog w = .ok (.enter 54 caps) w := enters_of Try.func54 (by kernel_rfl) rfl caps w
theorem eg53 (caps : Array Value) (w : World) : (callFunc 57 caps).run Try.prog w = .ok (.enter 57 caps) w := enters_of Try.func57 (by kernel_rfl) rfl caps w

/-- What an operation answers. -/
def OpSaid (w : World) (base nb : Nat) (F : Nat → Prop) (r : DD × Nat) : Ending → World → Prop := fun e w' => e = .returned (.int .i64 r.2) ∧ AtD w base nb F r.1 w'

theorem syncD_err {q : DName} (h : findE st q true ≠ 0) : syncD st q = (st, findE st q true) := by
  unfold syncD findE at *
  cases hd : st.down
  · rw [hd] at h
    cases hg : getA q st.fs with
    | none => rfl
    | some f => rw [hg] at h; exact absurd rfl h
  · rfl
theorem syncD_ok {q : DName} {f : FD} (h : st.down = false) (hg : getA q st.fs = some f) : syncD st q = opD st false (setS q ⟨f.b, f.b.length⟩ st.fs) := by unfold syncD; rw [h, hg]; rfl

theorem sync_dead (h : DeadD w d) (s : ByteArray) : Calls Try.prog 23 #[d, .string s] w fun e w' => e = .returned (.int .i64 1) ∧ Below w.heap.size w w' := by
  have HC := Lib.hid (find_dead h s true)
  have hb1 := below_boxK w (Obj.cells #[.pointer none] 65)
  go_enter Try.func23, Try.ntmps23
  go_wp2_with (go_at_call 44; refine HC.out.mono ?_; rintro e w1 ⟨rfl, rfl⟩)
  go_ret
  exact ⟨rfl, hb1⟩

theorem sync_any (h : DiskM w base nb st F) (hF : F nb) (hb : base ≤ w.heap.size) (hwf : DWf n st) (q : DName) (hq : q.length ≤ 140737488355328) :
    Calls Try.prog 23 #[.pointer (some ⟨nb, 0, none⟩), .string (str8 q)] w (OpSaid w base nb F (syncD st q)) := by
  have h' := h
  obtain ⟨⟨mb, X, hI, hfoot⟩, hlow⟩ := h'
  unfold OpSaid
  rcases find_said hI q hq true with ⟨h0, hc⟩ | ⟨hd, _, A, x, B, rfl, rfl, hg, hc⟩
  · rw [syncD_err h0]
    have HA := Lib.hid (fun W (hW : Below w.heap.size w W) => AtD.same h hb hF hW)
    have hb1 := Lib.hid (below_boxK w (Obj.cells #[.pointer none] 65))
    generalize findE st q true = E at *
    have HC := Lib.hid hc
    have t1 : ((E : Int) != 0) = true := by simp; omega
    clear hc h0 hI h hlow hfoot hwf hb
    go_enter Try.func23, Try.ntmps23
    go_wp2_with (go_at_call 44; refine HC.out.mono ?_; rintro e w1 ⟨rfl, rfl⟩)
    go_ret
    exact ⟨rfl, HA.out _ hb1.out⟩
  · rw [syncD_ok hd hg]
    have hb1 := below_boxK w (Obj.cells #[.pointer (some ⟨x.p, 0, none⟩)] 65)
    have hfb := Bx.new w (.pointer (some ⟨x.p, 0, none⟩)) 65
    obtain ⟨W, hW⟩ : ∃ W, W = w.alloc (Obj.cells #[.pointer (some ⟨x.p, 0, none⟩)] 65) := ⟨_, rfl⟩
    rw [← hW] at hb1 hfb
    have hIW := hI.keep (w' := W) fun k hk => hb1.block k (hI.lt k hk)
    have HO := Lib.hid (operate_any (AtD.same h hb hF hb1) hd hwf.fuse false 49 #[.pointer (some ⟨w.heap.size, 0, none⟩)] (eg50 _) (setS x.q ⟨x.f.b, x.f.b.length⟩ st.fs) fun _ =>
      (sync1_any hIW hg hfb).mono fun e w1 ⟨e1, e2, e3⟩ => ⟨e1, AtD.made h hb hF hfoot hb1 e2 (e3.mono fun k _ e => .inl (.inr (.inr ⟨x, by simp, .inl e⟩))) fun k hk => .inl (by
        rcases hk with rfl | rfl | ⟨y, hy, hk⟩
        · exact .inl rfl
        · exact .inr (.inl rfl)
        · rcases List.mem_append.1 hy with hy | hy
          · exact .inr (.inr ⟨y, by simp [hy], hk⟩)
          · rcases List.mem_cons.1 hy with rfl | hy
            · exact .inr (.inr ⟨x, by simp, hk⟩)
            · exact .inr (.inr ⟨y, by simp [hy], hk⟩))⟩)
    have HC := Lib.hid hc
    have HW := Lib.hid hW
    clear hc hI h hlow hfoot hwf hb hIW hfb hb1 hW hg
    go_enter Try.func23, Try.ntmps23
    go_wp2_with (first
      | (go_at_call 44; refine HC.out.mono ?_; rintro e w1 ⟨rfl, rfl⟩)
      | (rw [← HW.out]; go_at_call 47; refine HO.out.mono ?_; rintro e w2 ⟨rfl, h2⟩))
    go_ret
    exact ⟨rfl, h2⟩

theorem below_box2K (w : World) (o p : Obj) : Below w.heap.size w ((w.alloc o).alloc p) := (below_boxK w o).alloc (below_boxK w o).size _
theorem below_box3K (w : World) (o p r : Obj) : Below w.heap.size w (((w.alloc o).alloc p).alloc r) := (below_box2K w o p).alloc (below_box2K w o p).size _
theorem DeadD.kept {W : World} (h : DeadD w d) (hb : Below w.heap.size w W) : DeadD W d := by
  rcases h with rfl | ⟨nb, rfl, h⟩
  · exact .inl rfl
  · exact .inr ⟨nb, rfl, (hb.block nb (Array.getElem?_eq_some_iff.1 h).1).trans h⟩
theorem foot_mid {B' : List PF} {k : Nat} (h : footD nb mb (A ++ B') k) (hB : ∀ y ∈ B', ∃ z ∈ A ++ B, y.p = z.p ∧ y.v = z.v) : footD nb mb (A ++ B) k := by
  rcases h with rfl | rfl | ⟨y, hy, hk⟩
  · exact .inl rfl
  · exact .inr (.inl rfl)
  · rcases List.mem_append.1 hy with hy | hy
    · exact .inr (.inr ⟨y, by simp [hy], hk⟩)
    · obtain ⟨z, hz, e1, e2⟩ := hB y hy
      exact .inr (.inr ⟨z, hz, by rw [← e1, ← e2]; exact hk⟩)

theorem removeD_err {q : DName} (h : findE st q true ≠ 0) : removeD st q = (st, findE st q true) := by
  unfold removeD findE at *
  cases hd : st.down
  · rw [hd] at h
    cases hg : getA q st.fs with
    | none => rfl
    | some f => rw [hg] at h; exact absurd rfl h
  · rfl
theorem removeD_ok {q : DName} {f : FD} (h : st.down = false) (hg : getA q st.fs = some f) : removeD st q = opD st false (delA q st.fs) := by unfold removeD; rw [h, hg]; rfl

theorem remove_dead (h : DeadD w d) (s : ByteArray) : Calls Try.prog 30 #[d, .string s] w fun e w' => e = .returned (.int .i64 1) ∧ Below w.heap.size w w' := by
  have hb1 := below_box2K w (Obj.cells #[d] 23) (Obj.cells #[.string s] 9)
  have hb2 := below_box3K w (Obj.cells #[d] 23) (Obj.cells #[.string s] 9) (Obj.cells #[.pointer none] 65)
  have HC := Lib.hid (find_dead (h.kept hb1) s true)
  clear hb1
  rcases h with rfl | ⟨nb, rfl, h⟩
  all_goals
    go_enter Try.func30, Try.ntmps30
    go_wp2_with (go_at_call 44; refine HC.out.mono ?_; rintro e w1 ⟨rfl, rfl⟩)
    go_ret
    exact ⟨rfl, hb2⟩

theorem remove_any (h : DiskM w base nb st F) (hF : F nb) (hb : base ≤ w.heap.size) (hwf : DWf n st) (q : DName) (hq : q.length ≤ 140737488355328) :
    Calls Try.prog 30 #[.pointer (some ⟨nb, 0, none⟩), .string (str8 q)] w (OpSaid w base nb F (removeD st q)) := by
  have h' := h
  obtain ⟨⟨mb, X, hI, hfoot⟩, hlow⟩ := h'
  unfold OpSaid
  have hb0 := below_box2K w (Obj.cells #[.pointer (some ⟨nb, 0, none⟩)] 23) (Obj.cells #[.string (str8 q)] 9)
  obtain ⟨W0, hW0⟩ : ∃ W0, W0 = (w.alloc (Obj.cells #[.pointer (some ⟨nb, 0, none⟩)] 23)).alloc (Obj.cells #[.string (str8 q)] 9) := ⟨_, rfl⟩
  have b1 : Bx W0 w.heap.size (.pointer (some ⟨nb, 0, none⟩)) 23 := by rw [hW0]; exact (heap_alloc_old _ _ (by simp)).trans (heap_alloc_new w _)
  have b2 : Bx W0 (w.heap.size + 1) (.string (str8 q)) 9 := by rw [hW0, ← World.size_alloc w (Obj.cells #[.pointer (some ⟨nb, 0, none⟩)] 23)]; exact heap_alloc_new _ _
  have hs0 : W0.heap.size = w.heap.size + 1 + 1 := by rw [hW0]; simp
  rw [← hW0] at hb0
  have hI0 := hI.keep (w' := W0) fun k hk => hb0.block k (hI.lt k hk)
  have c1 := b1.c
  have c2 := b2.c
  rcases find_said hI0 q hq true with ⟨h0, hc⟩ | ⟨hd, _, A, x, B, rfl, rfl, hg, hc⟩
  · rw [removeD_err h0]
    have HA := Lib.hid (fun W (hW : Below w.heap.size w W) => AtD.same h hb hF hW)
    have hb1 := Lib.hid (hb0.alloc hb0.size (Obj.cells #[.pointer none] 65))
    generalize findE st q true = E at *
    have HC := Lib.hid hc
    have t1 : ((E : Int) != 0) = true := by simp; omega
    have HW0 := Lib.hid hW0
    clear hc h0 hI h hlow hfoot hwf hb hb0 b1 b2 hI0 hW0
    go_enter Try.func30, Try.ntmps30
    go_upto_region 1 with fail
    rw [← HW0.out]
    go_wp2_with (go_at_call 44; refine HC.out.mono ?_; rintro e w1 ⟨rfl, rfl⟩)
    go_ret
    exact ⟨rfl, HA.out _ hb1.out⟩
  · rw [removeD_ok hd hg]
    have hb1 := hb0.alloc hb0.size (Obj.cells #[.pointer (some ⟨x.p, 0, none⟩)] 65)
    have hfb := Bx.new W0 (.pointer (some ⟨x.p, 0, none⟩)) 65
    obtain ⟨W, hW⟩ : ∃ W, W = W0.alloc (Obj.cells #[.pointer (some ⟨x.p, 0, none⟩)] 65) := ⟨_, rfl⟩
    have hold : ∀ k, k < W0.heap.size → W.heap[k]? = W0.heap[k]? := fun k hk => by rw [hW]; exact heap_alloc_old _ _ hk
    rw [← hW] at hb1 hfb
    have d1 := b1.keep (hold _ b1.lt)
    have d2 := b2.keep (hold _ b2.lt)
    have hIW := hI.keep (w' := W) fun k hk => hb1.block k (hI.lt k hk)
    have hu := hwf.used
    have hu2 := hwf.room
    have c3 : (W0.alloc (Obj.cells #[.pointer (some ⟨x.p, 0, none⟩)] 65)).cell? ⟨w.heap.size, 0, none⟩ = some (.pointer (some ⟨nb, 0, none⟩)) := by rw [← hW]; exact d1.c
    have HO := Lib.hid (operate_any (AtD.same h hb hF hb1) hd hwf.fuse false 57 #[.pointer (some ⟨w.heap.size, 0, none⟩), .pointer (some ⟨w.heap.size + 1, 0, none⟩), .pointer (some ⟨W0.heap.size, 0, none⟩)] (eg53 _) (delA x.q st.fs) fun _ =>
      (remove1_any hIW hg hq (by omega) d1 d2 hfb).mono fun e w1 ⟨e1, e2, e3⟩ => ⟨e1, AtD.made h hb hF hfoot hb1 e2 (e3.mono fun k _ e => .inl (e.elim .inl fun e => .inr (.inl e))) fun k hk => .inl (foot_mid hk fun y hy => ⟨y, by simp [hy], rfl, rfl⟩)⟩)
    have HC := Lib.hid hc
    have HW := Lib.hid hW
    have HW0 := Lib.hid hW0
    have HS0 := Lib.hid hs0
    clear hc hI h hlow hfoot hwf hb hIW hfb hb1 hW hg hold d1 d2 b1 b2 hI0 hb0 hW0 hu hu2 hs0
    go_enter Try.func30, Try.ntmps30
    go_upto_region 1 with fail
    rw [← HW0.out]
    go_wp2_with (first
      | (go_at_call 44; refine HC.out.mono ?_; rintro e w1 ⟨rfl, rfl⟩)
      | (rw [← HW.out]; go_at_call 47; refine HO.out.mono ?_; rintro e w2 ⟨rfl, h2⟩))
    go_ret
    exact ⟨rfl, h2⟩
end

end Go.Proofs.Ytngjmeohleoglaa
