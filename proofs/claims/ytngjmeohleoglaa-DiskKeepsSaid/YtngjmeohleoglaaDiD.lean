/-
  The contract of disk's operate, for whatever is done.
  Conditions: none but sizes.
-/
import Derived.Test.YtngjmeohleoglaaDiA
namespace Go.Proofs.Ytngjmeohleoglaa
open Go.RowKit
set_option linter.unusedVariables false
set_option linter.unusedSimpArgs false
set_option maxRecDepth 100000

/-- A disk on its way: since w0 nothing has turned but blocks of F, and what is new. -/
structure AtD (w0 : World) (base nb : Nat) (F : Nat → Prop) (st : DD) (w : World) : Prop where
  disk : DiskM w base nb st (newer F w0 w)
  mv : Mv F w0 w
  has : F nb
  fit : base ≤ w0.heap.size

section
variable {w0 w w' : World} {base nb mb : Nat} {F : Nat → Prop} {st : DD} {X : List PF}
theorem AtD.start (h : DiskM w base nb st F) (hb : base ≤ w.heap.size) (hF : F nb) : AtD w base nb F st w :=
  ⟨h.wider (fun k hk => .inl hk) (fun k hk => hk.elim (h.2 k) fun h2 => by omega), Mv.refl _ _, hF, hb⟩
theorem AtD.low (h : AtD w0 base nb F st w) : ∀ k, F k → base ≤ k ∧ k < w.heap.size := fun k hk => h.disk.2 k (.inl hk)
/-- From what is at hand: a disk in a later world. -/
theorem AtD.of (h : AtD w0 base nb F st w) {st' : DD} (hd : DiskI w' base nb mb X st') (hm : Mv (newer F w0 w) w w') (hs : ∀ k, footD nb mb X k → newer F w0 w k ∨ w.heap.size ≤ k) : AtD w0 base nb F st' w' := by
  have hsz := hm.size
  have h0 := h.mv.size
  refine ⟨⟨⟨mb, X, hd, fun k hk => ?_⟩, fun k hk => ?_⟩, h.mv.trans hm fun k hk h2 => ?_, h.has, h.fit⟩
  · have hlt := hd.lt k hk
    rcases hs k hk with (h1 | h1) | h1
    · exact .inl h1
    · exact .inr ⟨h1.1, hlt⟩
    · exact .inr ⟨by omega, hlt⟩
  · have := h.fit
    rcases hk with hk | hk
    · have := h.low k hk; omega
    · omega
  · rcases h2 with h2 | h2
    · exact h2
    · omega
theorem AtD.setBox (h : AtD w0 base nb F st w) {fuse : Nat} {down : Bool} (hb : ∀ room used mb, BoxD w nb room used mb st.fuse st.down → BoxD w' nb room used mb fuse down) (hs : w'.heap.size = w.heap.size) (hos : w'.os = w.os ∧ w'.tape = w.tape ∧ w'.output = w.output) (hk : ∀ k, k ≠ nb → w'.heap[k]? = w.heap[k]?) : AtD w0 base nb F { st with fuse := fuse, down := down } w' := by
  obtain ⟨⟨mb, X, h1, h2⟩, h3⟩ := h.disk
  refine h.of (h1.setBox (hb _ _ _ h1.box) fun k _ hkn => hk k hkn) ⟨hos.1, hos.2.1, hos.2.2, by omega, fun k _ hF => hk k (fun e => hF (.inl (e ▸ h.has)))⟩ fun k hk' => .inl (h2 k hk')
theorem AtD.setFuse (h : AtD w0 base nb F st w) (n : Nat) : AtD w0 base nb F { st with fuse := n } (w.setCell ⟨nb, 3, none⟩ (.int .i64 n)) :=
  h.setBox (fun _ _ _ hb => hb.set3 n) (by simp) ⟨rfl, rfl, rfl⟩ fun k hk => heap_setCell_other _ _ _ _ hk
theorem AtD.setDown (h : AtD w0 base nb F st w) (n : Bool) : AtD w0 base nb F { st with down := n } (w.setCell ⟨nb, 4, none⟩ (.bool n)) :=
  h.setBox (fun _ _ _ hb => hb.set4 n) (by simp) ⟨rfl, rfl, rfl⟩ fun k hk => heap_setCell_other _ _ _ _ hk
theorem AtD.crash (h : AtD w0 base nb F st w) : AtD w0 base nb F { st with fuse := 0, down := true } ((w.setCell ⟨nb, 3, none⟩ (.int .i64 0)).setCell ⟨nb, 4, none⟩ (.bool true)) := (h.setFuse 0).setDown true
theorem AtD.box (h : AtD w0 base nb F st w) : ∃ room used mb, BoxD w nb room used mb st.fuse st.down := by
  obtain ⟨⟨mb, X, h1, h2⟩, h3⟩ := h.disk
  exact ⟨_, _, _, h1.box⟩
theorem AtD.draw (h : AtD w0 base nb F st w) : AtD w0 base nb F st w.drew := ⟨by obtain ⟨⟨mb, X, h1, h2⟩, h3⟩ := h.disk; exact ⟨⟨mb, X, h1.keep fun _ _ => rfl, h2⟩, h3⟩, h.mv.drew, h.has, h.fit⟩
theorem AtD.alloc (h : AtD w0 base nb F st w) (o : Obj) : AtD w0 base nb F st (w.alloc o) := by
  obtain ⟨⟨mb, X, h1, h2⟩, h3⟩ := h.disk
  refine h.of (h1.keep fun k hk => heap_alloc_old w o (h1.lt k hk)) ((Mv.refl _ _).alloc o) fun k hk' => .inl (h2 k hk')

theorem operate_any (h : AtD w0 base nb F st w) (hd : st.down = false) (hf : st.fuse ≤ 9223372036854775807) (loose : Bool) (g : Nat) (caps : Array Value) (eg : ∀ w, (callFunc g caps).run Try.prog w = .ok (.enter g caps) w) (fs' : DRow)
    (hdo : loose = true ∨ st.fuse ≠ 1 → Calls Try.prog g caps w fun e w1 => e = .returned (.tuple #[]) ∧ AtD w0 base nb F { st with fs := fs' } w1) :
    Calls Try.prog 47 #[.pointer (some ⟨nb, 0, none⟩), .int .u8 (if loose then 0 else 1), .func (.func g) #[] caps] w fun e w' => e = .returned (.int .i64 (opD st loose fs').2) ∧ AtD w0 base nb F (opD st loose fs').1 w' := by
  obtain ⟨room, used, mb, hb⟩ := h.box
  have c3 := hb.c3
  by_cases h1 : st.fuse = 1
  · have ht : ((st.fuse : Int) == 1) = true := by simp; omega
    rw [h1] at c3 ht
    cases loose
    · have e1 : opD st false fs' = ({ st with fuse := 0, down := true }, 100) := by simp [opD, h1]
      rw [e1]
      have HX := Lib.hid (crash_any hb)
      have HA := Lib.hid h.crash
      clear hdo h e1 h1
      go_enter Try.func47, Try.ntmps47
      go_wp2_with (go_at_call 14; refine HX.out.mono ?_; rintro e w1 ⟨rfl, rfl⟩)
      go_ret
      exact ⟨rfl, HA.out⟩
    · have e1 : opD st true fs' = ({ st with fs := fs', fuse := 0, down := true }, 100) := by simp [opD, h1]
      rw [e1]
      have HD := Lib.hid (hdo (.inl rfl))
      have HX := Lib.hid (fun w' (h' : AtD w0 base nb F { st with fs := fs' } w') => (And.intro (crash_any h'.box.choose_spec.choose_spec.choose_spec) h'.crash))
      clear hdo h e1 h1
      go_enter Try.func47, Try.ntmps47
      go_wp2_with fail
      refine HD.out.mono ?_
      rintro e w1 ⟨rfl, h1⟩
      have HX1 := Lib.hid (HX.out w1 h1)
      clear HX HD
      go_wp2_with (go_at_call 14; refine HX1.out.1.mono ?_; rintro e w1 ⟨rfl, rfl⟩)
      go_ret
      exact ⟨rfl, HX1.out.2⟩
  · have ht : ((st.fuse : Int) == 1) = false := by simp; omega
    have e1 : opD st loose fs' = ({ st with fs := fs', fuse := st.fuse - 1 }, 0) := by simp [opD, h1]
    rw [e1]
    have HD := Lib.hid (hdo (.inr h1))
    have HX := Lib.hid (fun w' (h' : AtD w0 base nb F { st with fs := fs' } w') => h'.setFuse (st.fuse - 1))
    have HB := Lib.hid (fun w' (h' : AtD w0 base nb F { st with fs := fs' } w') => h'.box)
    generalize hdn : st.down = dn at *
    clear hd hdn
    obtain ⟨m, hm⟩ : ∃ m, m = st.fuse - 1 := ⟨_, rfl⟩
    rw [← hm] at HX ⊢
    have hw : IntKind.i64.wrap ((st.fuse : Int) - 1) = (st.fuse : Int) - 1 := i64_id _ (by omega) (by omega)
    have hmx : (0 < st.fuse → (st.fuse : Int) - 1 = (m : Int)) ∧ (st.fuse = 0 → m = 0) := by omega
    have HM := Lib.hid hmx
    clear hdo h e1 hm hmx h1
    generalize hfz : st.fuse = fz at *
    have HZ := Lib.hid hfz
    clear hfz
    go_enter Try.func47, Try.ntmps47
    go_wp2_with fail
    all_goals
      refine HD.out.mono ?_
      rintro e w1 ⟨rfl, h1⟩
      obtain ⟨r1, u1, m1, hb1⟩ := HB.out w1 h1
      have c3 := hb1.c3
      have f3 := hb1.fr 3
      have HA := Lib.hid (HX.out w1 h1)
      clear h1 hb1 hb
      go_wp2_with fail
      all_goals
        go_ret
        have hm := HM.out
        first
        | (have e : (fz : Int) - 1 = (m : Int) := by omega
           exact ⟨rfl, by rw [e]; exact HA.out⟩)
        | (have e : m = 0 := by omega
           subst e
           exact ⟨rfl, HA.out⟩)
end

end Go.Proofs.Ytngjmeohleoglaa
