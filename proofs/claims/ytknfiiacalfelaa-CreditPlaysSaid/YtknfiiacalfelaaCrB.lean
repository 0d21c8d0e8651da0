/-
  The program's Credit, change, Give and Stop.
  Conditions: none but sizes.
-/
import Derived.Test.YtknfiiacalfelaaCrA
import Derived.Deep.RegionHeld3
import Derived.Shelf.Abstract
namespace Go.Proofs.Ytknfiiacalfelaa
open Go.RowKit Go.Shelf
set_option linter.unusedVariables false
set_option linter.unusedSimpArgs false
set_option maxRecDepth 100000

section
variable {w w' : World} {B qb : Nat} {F : Nat → Prop} {s : CP}
theorem CI.split {rb mb sv : Nat} {X : List ST} (h : CI w B qb rb mb sv X s) (ho : s.ok) {t : Tg} {c : Nat} (hg : getA t s.l = some c) : ∃ A x D, X = A ++ x :: D ∧ x.t = t ∧ x.c = c ∧ getA t (LofS X) = some (nodeV x.b) :=
  LofS_some (by rw [← h.row]; exact ho.nod) (by rw [← h.row]; exact hg)
theorem credit_any (h : CW w B qb s F) (t : Tg) (ht : t.length ≤ 140737488355328) : Calls Try.prog 20 #[.pointer (some ⟨qb, 0, none⟩), .string (str8 t)] w fun e w' => e = .returned (.tuple #[.int .u32 (s.credit t).1, .int .i64 (s.credit t).2]) ∧ w' = w := by
  obtain ⟨ho, rb, mb, sv, X, h1, _⟩ := h
  cases hg : getA t s.l with
  | none =>
    have HF := Lib.hid (find_none h1 t ht hg)
    have e : s.credit t = (0, 7) := by unfold CP.credit; rw [hg]
    rw [e]
    clear h1 hg e ho
    go_enter Try.func20, Try.ntmps20
    go_wp2_with (go_at_call 26; refine HF.out.mono ?_; rintro e w1 ⟨rfl, rfl⟩)
    go_ret2
    exact ⟨rfl, rfl⟩
  | some c =>
    obtain ⟨A, x, D, hX, rfl, rfl, hg2⟩ := h1.split ho hg
    have HF := Lib.hid (find_some h1 x.t ht x.b hg2)
    have c1 := (h1.seat x (by rw [hX]; simp)).c1
    have e : s.credit x.t = (x.c, 0) := by unfold CP.credit; rw [hg]
    rw [e]
    unfold nodeV at HF
    clear h1 hg hg2 e ho hX
    generalize x.t = t at *
    generalize x.b = b at *
    generalize x.c = c at *
    go_enter Try.func20, Try.ntmps20
    go_wp2_with (go_at_call 26; refine HF.out.mono ?_; rintro e w1 ⟨rfl, rfl⟩)
    go_ret2
    exact ⟨rfl, rfl⟩
/-- A seat's credit is stored. -/
theorem CI.setC {rb mb sv : Nat} {A D : List ST} {x : ST} (h : CI w B qb rb mb sv (A ++ x :: D) s) (ho : s.ok) (f : Nat → Nat) {u : Tg} {sv' : Nat} (hw : ∀ k, k ≠ x.b → k ≠ rb → w'.heap[k]? = w.heap[k]?) (hr : RingC w' rb sv') (hs : SeatC w' x.b x.t (f x.c))
    (hl : ∀ a i, i = 2 ∨ i = 3 → w'.cell? ⟨a, i, none⟩ = w.cell? ⟨a, i, none⟩)
    (hsv : (u = [] ∧ sv' = rb) ∨ ∃ y ∈ A ++ x :: D, y.t = u ∧ sv' = y.b) :
    CI w' B qb rb mb sv' (A ++ ⟨x.t, f x.c, x.b⟩ :: D) ⟨updA x.t f s.l, u⟩ := by
  have hx : x ∈ A ++ x :: D := by simp
  have hnr := (h.seat x hx).neRing h.ring
  have hb1 : x.b ≠ qb := (h.seat x hx).neBox h.box
  have hb2 : rb ≠ qb := h.ring.neBox h.box
  have hm1 : x.b ≠ mb := (h.seat x hx).neMap h.map
  have hm2 : rb ≠ mb := h.ring.neMap h.map
  have hbl : blS (A ++ ⟨x.t, f x.c, x.b⟩ :: D) = blS (A ++ x :: D) := by simp [blS]
  have hlo : LofS (A ++ ⟨x.t, f x.c, x.b⟩ :: D) = LofS (A ++ x :: D) := by simp [LofS]
  have hn := ho.nod
  rw [h.row] at hn
  have hmem : ∀ y ∈ A ++ ⟨x.t, f x.c, x.b⟩ :: D, (y = ⟨x.t, f x.c, x.b⟩) ∨ (y ∈ A ∨ y ∈ D) := fun y hy => by simp at hy; rcases hy with h | h | h <;> simp [h]
  have hnd := h.nod
  refine ⟨(hw qb hb1.symm hb2.symm).trans h.box, hr, fun y hy => ?_, ?_, ?_, ?_, by rw [hlo]; exact h.map.keep (hw mb hm1.symm hm2.symm), by rw [hbl]; exact h.nod, h.hq, h.hr, h.hm, fun y hy => ?_⟩
  · rcases hmem y hy with rfl | hy
    · exact hs
    · have hy' : y ∈ A ++ x :: D := by simp; rcases hy with h | h <;> simp [h]
      refine (h.seat y hy').keep (hw _ ?_ ((h.seat y hy').neRing h.ring))
      intro e
      simp only [blS, List.map_append, List.map_cons, List.nodup_append, List.nodup_cons] at hnd
      obtain ⟨_, ⟨h2, _⟩, h3⟩ := hnd
      rcases hy with hy | hy
      · exact h3 y.b (List.mem_map.2 ⟨y, hy, rfl⟩) x.b (by simp) e
      · exact h2 (by rw [← e]; exact List.mem_map.2 ⟨y, hy, rfl⟩)
  · rw [hbl]
    exact h.link.keep (fun a _ => hl a 3 (.inr rfl)) (fun a _ => hl a 2 (.inl rfl))
  · show updA x.t f s.l = _
    rw [h.row, List.map_append, List.map_cons]
    have hn2 := hn
    rw [List.map_append, List.map_cons] at hn2
    have := updA_mid (f := f) (x := tcS x) (a := A.map tcS) (b := D.map tcS) hn2
    rw [show x.t = (tcS x).1 from rfl, this]
    simp [tcS]
  · rcases hsv with h1 | ⟨y, hy, e1, e2⟩
    · exact .inl h1
    · refine .inr ?_
      simp only [List.mem_append, List.mem_cons] at hy
      rcases hy with hy | rfl | hy
      · exact ⟨y, by simp [hy], e1, e2⟩
      · exact ⟨⟨y.t, f y.c, y.b⟩, by simp, e1, e2⟩
      · exact ⟨y, by simp [hy], e1, e2⟩
  · rcases hmem y hy with rfl | hy
    · exact h.hx x hx
    · exact h.hx y (by simp; rcases hy with h | h <;> simp [h])
theorem cell_other23 {w : World} {b i j : Nat} {v : Value} (a : Nat) (hj : i ≠ j) : (w.setCell ⟨b, j, none⟩ v).cell? ⟨a, i, none⟩ = w.cell? ⟨a, i, none⟩ := World.cell?_setCell_other _ _ _ _ (by intro e; injection e with _ e _; exact hj e.symm)
theorem FC_setC (qb rb mb : Nat) (A D : List ST) (x : ST) (f : Nat → Nat) : FC qb rb mb (A ++ ⟨x.t, f x.c, x.b⟩ :: D) = FC qb rb mb (A ++ x :: D) := by
  funext k
  unfold FC
  simp only [List.mem_append, List.mem_cons, eq_iff_iff]
  constructor
  · rintro (h | h | h | ⟨y, (hy | rfl | hy), rfl⟩)
    · exact .inl h
    · exact .inr (.inl h)
    · exact .inr (.inr (.inl h))
    · exact .inr (.inr (.inr ⟨y, .inl hy, rfl⟩))
    · exact .inr (.inr (.inr ⟨x, .inr (.inl rfl), rfl⟩))
    · exact .inr (.inr (.inr ⟨y, .inr (.inr hy), rfl⟩))
  · rintro (h | h | h | ⟨y, (hy | rfl | hy), rfl⟩)
    · exact .inl h
    · exact .inr (.inl h)
    · exact .inr (.inr (.inl h))
    · exact .inr (.inr (.inr ⟨y, .inl hy, rfl⟩))
    · exact .inr (.inr (.inr ⟨⟨y.t, f y.c, y.b⟩, .inr (.inl rfl), rfl⟩))
    · exact .inr (.inr (.inr ⟨y, .inr (.inr hy), rfl⟩))
/-- change: what the function value makes of the credit is stored. -/
theorem change_any (h : CW w B qb s F) (t : Tg) (ht : t.length ≤ 140737488355328) (g : Nat) (n : Nat) (f : Nat → Nat) (hf : ∀ c, c ≤ 4294967295 → f c ≤ 4294967295)
    (eg : ∀ args w, (callFunc g args).run Try.prog w = .ok (.enter g args) w)
    (hg : ∀ (c : Nat) w, c ≤ 4294967295 → Calls Try.prog g #[.int .u32 c, .int .u32 n] w fun e w' => e = .returned (.int .u32 (f c)) ∧ w' = w) :
    Calls Try.prog 28 #[.pointer (some ⟨qb, 0, none⟩), .string (str8 t), .func (.func g) #[] #[], .int .u32 n] w (AnsC w B qb F (s.chg t f)) := by
  unfold AnsC
  have H0 := Lib.hid (LeftC.same h)
  obtain ⟨ho, rb, mb, sv, X, h1, hF⟩ := (show CW w B qb s F from h)
  cases hgt : getA t s.l with
  | none =>
    have HF := Lib.hid (find_none h1 t ht hgt)
    have e : s.chg t f = (7, s) := by unfold CP.chg; rw [hgt]; rfl
    rw [e]
    clear h1 hgt e ho h hF hg eg hf
    go_enter Try.func28, Try.ntmps28
    go_wp2_with (go_at_call 26; refine HF.out.mono ?_; rintro e w1 ⟨rfl, rfl⟩)
    go_ret
    exact ⟨rfl, H0.out⟩
  | some c =>
    obtain ⟨A, x, D, rfl, rfl, rfl, hg2⟩ := h1.split ho hgt
    have hx : x ∈ A ++ x :: D := by simp
    have hS := h1.seat x hx
    have HF := Lib.hid (find_some h1 x.t ht x.b hg2)
    have c1 := hS.c1
    have f1 := hS.fr 1
    have hcl : x.c ≤ 4294967295 := ho.cred (x.t, x.c) (by rw [h1.row]; exact List.mem_map.2 ⟨x, hx, rfl⟩)
    have HG := Lib.hid (hg x.c w hcl)
    have e : s.chg x.t f = (0, ⟨updA x.t f s.l, s.last⟩) := by unfold CP.chg; rw [hgt]; rfl
    rw [e]
    have HK := Lib.hid (show LeftC w B qb F ⟨updA x.t f s.l, s.last⟩ (w.setCell ⟨x.b, 1, none⟩ (.int .u32 (f x.c))) from
      ⟨F, ⟨ho.upd hf ho.last, rb, mb, sv, A ++ ⟨x.t, f x.c, x.b⟩ :: D, h1.setC ho f (fun k hk _ => Below.heap_setCell _ _ _ _ hk) (h1.ring.keep (Below.heap_setCell _ _ _ _ (hS.neRing h1.ring).symm)) (hS.set1 _) (fun a i hi => cell_other23 a (by rcases hi with rfl | rfl <;> decide)) h1.srv, by rw [FC_setC]; exact hF⟩, fun k hk => .inl hk, (MovedQ.refl _ _).setCell (fun _ => by rw [hF]; exact .inr (.inr (.inr ⟨x, hx, rfl⟩))) _ _⟩)
    unfold nodeV at HF
    clear h1 hgt hg2 e ho h hF hS hg hcl hf
    generalize x.t = t at *
    generalize x.b = b at *
    generalize x.c = c at *
    generalize f c = fc at *
    go_enter Try.func28, Try.ntmps28
    go_wp2_with (go_at_call 26; refine HF.out.mono ?_; rintro e w1 ⟨rfl, rfl⟩)
    refine HG.out.mono ?_
    rintro e w1 ⟨rfl, rfl⟩
    go_wp2_with fail
    go_ret
    exact ⟨rfl, HK.out⟩
theorem give_any (h : CW w B qb s F) (t : Tg) (ht : t.length ≤ 140737488355328) (n : Nat) (hn : n ≤ 4294967295) : Calls Try.prog 17 #[.pointer (some ⟨qb, 0, none⟩), .string (str8 t), .int .u32 n] w (AnsC w B qb F (s.give t n)) := by
  have HC := Lib.hid (change_any h t ht 34 n (fun c => min (c + n) 4294967295) (fun c _ => by omega) (enters_of Try.func34 (by kernel_rfl) rfl) (fun c w hc => plus_any c n w hc hn))
  have e : s.give t n = s.chg t (fun c => min (c + n) 4294967295) := rfl
  rw [e]
  generalize s.chg t (fun c => min (c + n) 4294967295) = R at *
  clear h e
  unfold AnsC at *
  go_enter Try.func17, Try.ntmps17
  go_wp2_with (go_at_call 28; refine HC.out.mono ?_; rintro e w1 ⟨rfl, hl⟩)
  go_ret
  exact ⟨rfl, hl⟩
theorem stop_any (h : CW w B qb s F) (t : Tg) (ht : t.length ≤ 140737488355328) : Calls Try.prog 13 #[.pointer (some ⟨qb, 0, none⟩), .string (str8 t)] w (AnsC w B qb F (s.stop t)) := by
  have HC := Lib.hid (change_any h t ht 29 0 (fun _ => 0) (fun c _ => by omega) (enters_of Try.func29 (by kernel_rfl) rfl) (fun c w hc => to_any c 0 w))
  have e : s.stop t = s.chg t (fun _ => 0) := rfl
  rw [e]
  generalize s.chg t (fun _ => 0) = R at *
  clear h e
  unfold AnsC at *
  go_enter Try.func13, Try.ntmps13
  go_wp2_with (go_at_call 28; refine HC.out.mono ?_; rintro e w1 ⟨rfl, hl⟩)
  go_ret
  exact ⟨rfl, hl⟩
end

end Go.Proofs.Ytknfiiacalfelaa
