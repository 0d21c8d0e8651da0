/-
  What Do and Prep tell may be; what is added one by one makes a right work.
  Conditions: none.
-/
import Derived.Test.YtpmafabphlejeaaGreatRows
import Derived.Test.YtpmafabphlejeaaGreatWTaZ
namespace Go.Proofs.YtpmafabphlejeaaGreat
open Go.ChangeShapes Go.WideShapes Go.ChangeAt Go.RowKit
set_option linter.unusedVariables false
set_option linter.unusedSimpArgs false
set_option maxRecDepth 100000

theorem errE_do {ps : List PutE} {rs : List RefE} {n : Nat} (h : errD ps rs n = 0) : errE (doneE ps rs n) = 0 := by
  unfold doneE
  rw [if_pos h]
  exact errE_ok (doE_valid h)
theorem errE_prep {ps : List PutE} {rs : List RefE} {f : Nat} {g h : ByteArray} (he : errP2 ps rs g h = 0) : errE (prepdE ps rs f g h) = 0 := by
  unfold prepdE
  rw [if_pos he]
  exact errE_ok (prepdE_valid he)
theorem workV_takeP {ps : List PutE} {rs : List RefE} (h : workV ps rs) (j : Nat) : workV (ps.take j) [] :=
  ⟨by rw [List.length_take]; have := h.1; omega, by simp, fun p hp => h.2.2.1 p (List.take_subset j ps hp), fun r hr => (by cases hr), List.nodup_nil⟩
theorem workV_takeR {ps : List PutE} {rs : List RefE} (h : workV ps rs) (j : Nat) : workV ps (rs.take j) :=
  ⟨h.1, by rw [List.length_take]; have := h.2.1; omega, h.2.2.1, fun r hr => h.2.2.2.1 r (List.take_subset j rs hr), (List.take_sublist j rs).nodup h.2.2.2.2⟩
theorem add_oneP {ps : List PutE} {rs : List RefE} (h : workV ps rs) (j : Nat) (hj : j < ps.length) : errAP (ps.take j) [] ps[j] = 0 := by
  unfold errAP
  rw [if_neg (fun hn => hn ⟨workV_takeP h j, h.2.2.1 _ (List.getElem_mem hj)⟩), if_neg]
  rw [List.length_take]
  have := h.1
  omega
theorem add_oneR {ps : List PutE} {rs : List RefE} (h : workV ps rs) (j : Nat) (hj : j < rs.length) : errAT ps (rs.take j) rs[j] = 0 := by
  unfold errAT
  rw [if_neg (fun hn => hn ⟨workV_takeR h j, h.2.2.2.1 _ (List.getElem_mem hj)⟩), if_neg, if_neg]
  · rw [List.length_take]
    have := h.2.1
    omega
  · intro hm
    have hd := h.2.2.2.2
    have e : rs = rs.take j ++ rs[j] :: rs.drop (j + 1) := by rw [← List.drop_eq_getElem_cons hj, List.take_append_drop]
    have hd' : (rs.take j ++ rs[j] :: rs.drop (j + 1)).Nodup := by rw [← e]; exact hd
    rw [List.nodup_append] at hd'
    exact hd'.2.2 _ hm _ List.mem_cons_self rfl
theorem err_bad {x : WorkC} {n : Nat} {g h : ByteArray} (hv : wB x.ps x.rs = false) : errD x.ps x.rs n = 130 ∧ errP2 x.ps x.rs g h = 130 ∧ ifW x = zW :=
  ⟨by unfold errD; rw [if_pos hv], by unfold errP2; rw [if_pos hv], ifW_no hv⟩
/-- A work under way in a box that the call made. -/
structure WayW (w0 : World) (ps : List PutE) (rs : List RefE) (y : WorkC) (w : World) : Prop where
  box : BoxK w w0.heap.size (.slice y.A1 y.cs.length y.c1) (.slice y.A2 y.rs.length y.c2)
  own : OwnW w (w0.heap.size + 1) y
  p : y.ps = ps
  r : y.rs = rs
  bel : Below w0.heap.size w0 w
theorem WayW.new (w : World) : WayW w [] [] zW (w.alloc (Obj.cells #[.slice none 0 0, .slice none 0 0] 25)) :=
  ⟨BoxK.new w _ _, zW_own _ _, rfl, rfl, below_boxV w _⟩
section
variable {w0 w w' : World} {ps : List PutE} {rs : List RefE} {y : WorkC}
theorem WayW.step (h : WayW w0 ps rs y w) (hb : Below w.heap.size w w') : WayW w0 ps rs y w' :=
  ⟨h.box.kept hb (Nat.le_refl _), h.own.step hb, h.p, h.r, h.bel.trans (hb.mono h.bel.size)⟩
theorem WayW.set (h : WayW w0 ps rs y w) {w2 : World} {y2 : WorkC} {ps' : List PutE} {rs' : List RefE} (hb : Below w.heap.size w w2) (ho : OwnW w2 w.heap.size y2) (hp : y2.ps = ps') (hr : y2.rs = rs') :
    WayW w0 ps' rs' y2 ((w2.setCell ⟨w0.heap.size, 0, none⟩ (.slice y2.A1 y2.cs.length y2.c1)).setCell ⟨w0.heap.size, 1, none⟩ (.slice y2.A2 y2.rs.length y2.c2)) := by
  have h2 := h.step hb
  have hlt := h.box.lt
  refine ⟨(h2.box.set0 _).set1 _, ?_, hp, hr, below_set (below_set h2.bel (Nat.le_refl _) _) (Nat.le_refl _) _⟩
  have h3 : OwnW w2 (w0.heap.size + 1) y2 := ho.mono (by omega)
  refine h3.keep (by simp) fun k hk hkl => ?_
  rw [heap_setCell_other _ _ _ _ (by show k ≠ w0.heap.size; omega), heap_setCell_other _ _ _ _ (by show k ≠ w0.heap.size; omega)]
theorem WayW.sh {x : WorkC} (h : WayW w0 ps rs y w) (hv : workV x.ps x.rs) (hp : ps.length ≤ x.ps.length) (hR : ∀ r ∈ x.rs, RefAt r) (hr : ∀ r ∈ rs, r ∈ x.rs) (hrl : rs.length ≤ x.rs.length) : ShowsW w y := by
  have h1 := hv.1
  have h2 := hv.2.1
  refine h.own.sh ?_ ?_ ?_
  · have := h.p
    unfold WorkC.ps at this
    have e : (esOf y.cs).length = ps.length := by rw [this]
    rw [esOf_len] at e
    omega
  · intro r hm
    rw [h.r] at hm
    exact hR r (hr r hm)
  · rw [h.r]
    omega
theorem WayW.few (h : WayW w0 ps rs y w) (hf : FewE ps) : FewS y.cs := by
  rw [fewS_iff]
  have := h.p
  unfold WorkC.ps at this
  rw [this]
  exact hf
end
theorem fewE_take {ps : List PutE} (h : FewE ps) (j : Nat) : FewE (ps.take j) := fun p hp => h p (List.take_subset j ps hp)

/-- A round's new work in a box of its own. -/
def WayR (wr : World) (ps : List PutE) (rs : List RefE) (y2 : WorkC) (bx : Nat) (wx : World) : Prop :=
  BoxK wx bx (.slice y2.A1 y2.cs.length y2.c1) (.slice y2.A2 y2.rs.length y2.c2) ∧ OwnW wx wr.heap.size y2 ∧ y2.ps = ps ∧ y2.rs = rs ∧ Below wr.heap.size wr wx
section
variable {wr w2 : World} {ps : List PutE} {rs : List RefE} {y2 : WorkC} {B : Nat}
theorem wayR1 (h1 : y2.ps = ps) (h2 : y2.rs = rs) (h3 : OwnW w2 wr.heap.size y2) (hQ : Below wr.heap.size wr w2) :
    WayR wr ps rs y2 w2.heap.size (w2.alloc (Obj.cells #[.slice y2.A1 y2.cs.length y2.c1, .slice y2.A2 y2.rs.length y2.c2] 25)) :=
  ⟨BoxK.new w2 _ _, h3.step (below_boxV _ _), h1, h2, hQ.alloc hQ.size _⟩
theorem wayR2 {v1 v2 : Value} (h1 : y2.ps = ps) (h2 : y2.rs = rs) (h3 : OwnW w2 B y2) (hQ : Below wr.heap.size wr w2) (hq : BoxK w2 wr.heap.size v1 v2) (hB : B = wr.heap.size + 1) :
    WayR wr ps rs y2 wr.heap.size ((w2.setCell ⟨wr.heap.size, 0, none⟩ (.slice y2.A1 y2.cs.length y2.c1)).setCell ⟨wr.heap.size, 1, none⟩ (.slice y2.A2 y2.rs.length y2.c2)) := by
  refine ⟨(hq.set0 _).set1 _, ?_, h1, h2, below_set (below_set hQ (Nat.le_refl _) _) (Nat.le_refl _) _⟩
  subst hB
  refine (h3.keep (by simp) fun k hk hkl => ?_).mono (Nat.le_succ _)
  rw [heap_setCell_other _ _ _ _ (by show k ≠ wr.heap.size; omega), heap_setCell_other _ _ _ _ (by show k ≠ wr.heap.size; omega)]
end
theorem may_put {x : WorkC} (hv : workV x.ps x.rs) (hR : ∀ r ∈ x.rs, RefAt r) (hf : FewS x.cs) {w0 w : World} {y : WorkC} (j : Nat) (hj : j < x.cs.length) (h : WayW w0 (x.ps.take j) [] y w) (hx : PutAt w x.cs[j]) :
    Calls Tryz.prog 11 #[workVal y, putV x.cs[j]] w fun e w2 => ∃ y2 : WorkC, e = .returned (.tuple #[workVal y2, .int .i64 0]) ∧ y2.ps = x.ps.take (j + 1) ∧ y2.rs = [] ∧ OwnW w2 w.heap.size y2 ∧ Below w.heap.size w w2 := by
  have hjp : j < x.ps.length := by unfold WorkC.ps; rw [esOf_len]; exact hj
  have he : x.cs[j].e = x.ps[j] := (esOf_get x.cs j hj).symm
  have h0 := add_oneP hv j hjp
  have hA := addput_any y x.cs[j] w (h.sh hv (by rw [List.length_take]; omega) hR (fun r hr => absurd hr (List.not_mem_nil)) (by simp)) (h.few (fewE_take (fewS_iff.1 hf) j)) hx (hf j hj)
  refine hA.mono ?_
  rintro e w2 ⟨y2, rfl, h1, h2, h3, h4⟩
  rw [h.p, h.r, he] at h1 h2
  rw [h.p, h.r, he]
  unfold addPps at h1
  unfold addPrs at h2
  rw [if_pos h0] at h1 h2
  rw [h0]
  exact ⟨y2, rfl, by rw [h1, ← List.take_succ_eq_append_getElem hjp], h2, h3, h4⟩
theorem may_take {x : WorkC} (hv : workV x.ps x.rs) (hR : ∀ r ∈ x.rs, RefAt r) (hf : FewS x.cs) {w0 w : World} {y : WorkC} (j : Nat) (hj : j < x.rs.length) (h : WayW w0 x.ps (x.rs.take j) y w) :
    Calls Tryz.prog 13 #[workVal y, refV x.rs[j]] w fun e w2 => ∃ y2 : WorkC, e = .returned (.tuple #[workVal y2, .int .i64 0]) ∧ y2.ps = x.ps ∧ y2.rs = x.rs.take (j + 1) ∧ OwnW w2 w.heap.size y2 ∧ Below w.heap.size w w2 := by
  have h0 := add_oneR hv j hj
  have hA := addtake_any y x.rs[j] w (h.sh hv (Nat.le_refl _) hR (fun r hr => List.take_subset j x.rs hr) (by rw [List.length_take]; omega)) (h.few (fewS_iff.1 hf)) (hR _ (List.getElem_mem hj))
  refine hA.mono ?_
  rintro e w2 ⟨y2, rfl, h1, h2, h3, h4⟩
  rw [h.p, h.r] at h1 h2
  rw [h.p, h.r]
  unfold addTps at h1
  unfold addTrs at h2
  rw [if_pos h0] at h1 h2
  rw [h0]
  exact ⟨y2, rfl, h1, by rw [h2, ← List.take_succ_eq_append_getElem hj], h3, h4⟩

set_option maxHeartbeats 8000000 in
theorem wmay_walk (x : WorkC) (N f : Nat) (g h : ByteArray) (w : World) (hx : ShowsW w x) (hN : N < 18446744073709551616) (hfl : f < 4294967296) (hg : g.size ≤ 140737488351232) (hh : h.size ≤ 140737488351232) :
    Calls Tryz.prog 6 #[workVal x, .int .u64 N, xidV f g h] w fun e w' => e = .returned (.bool true) ∧ Below w.heap.size w w' := by
  have HSM := Lib.hid (fun w' (hb : Below w.heap.size w w') => qsmallw_any x w' (hx.kept hb (Nat.le_refl _)))
  have HHD := Lib.hid (fun w' => whead_any w')
  have HSH := Lib.hid hx
  have HFL := Lib.hid (And.intro hN (And.intro hfl (And.intro hg hh)))
  have hwv : workVal x = .agg #[.slice x.A1 x.cs.length x.c1, .slice x.A2 x.rs.length x.c2] := rfl
  unfold xidV
  rw [hwv] at HSM ⊢
  have hA := AtW.new w (.slice x.A1 x.cs.length x.c1) (.slice x.A2 x.rs.length x.c2) f g h
  obtain ⟨W1, hW1⟩ : ∃ W1, W1 = (w.alloc (Obj.cells #[.slice x.A1 x.cs.length x.c1, .slice x.A2 x.rs.length x.c2] 25)).alloc (Obj.cells #[.int .u32 f, .string g, .string h] 55) := ⟨_, rfl⟩
  rw [← hW1] at hA
  obtain ⟨⟨k0, k1⟩, k2, k3, k4⟩ := hA.cs
  have HA := Lib.hid hA
  have HW1 := Lib.hid hW1.symm
  clear hA hW1 hwv hx hN hfl hg hh
  go_enter Tryz.func6, Tryz.ntmps6
  go_upto_region 1 with fail
  rw [HW1.out]
  go_wp2_with fail
  refine (HSM.out _ HA.out.bel).mono ?_
  rintro e w2 ⟨r, rfl, hr, hb2⟩
  have hA2 := HA.out.step hb2
  clear k0 k1 k2 k3 k4
  cases r
  case false =>
    have HB2 := Lib.hid hA2.bel
    clear hr hb2 hA2
    go_wp2_with fail
    refine (HHD.out _).mono ?_
    rintro e w3 ⟨rfl, hb3⟩
    have HB3 := Lib.hid (HB2.out.trans (hb3.mono HB2.out.size))
    clear hb3
    go_wp2_with fail
    go_ret
    exact ⟨rfl, HB3.out⟩
  obtain ⟨hl1, hf1, hl2⟩ := hr rfl
  have HD := Lib.hid (fun w' (hb : Below w.heap.size w w') => do_any x N w' (HSH.out.kept hb (Nat.le_refl _)) hf1 HFL.out.1)
  have HP := Lib.hid (fun w' (hb : Below w.heap.size w w') => prep_any x f g h w' (HSH.out.kept hb (Nat.le_refl _)) hf1 HFL.out.2.1 HFL.out.2.2.1 HFL.out.2.2.2)
  have HWC := Lib.hid (fun w' (hb : Below w.heap.size w w') => wcheck_any x w' (HSH.out.kept hb (Nat.le_refl _)) hf1.few)
  have HEM := Lib.hid (fun w' (hb : Below w.heap.size w w') => empty_any x w' (HSH.out.kept hb (Nat.le_refl _)) hf1.few)
  have HF1 := Lib.hid hf1
  unfold EntSaid workVal at HD HP
  unfold workVal at HWC HEM
  have HE1 := Lib.hid (fun h => errE_do (ps := x.ps) (rs := x.rs) (n := N) h)
  have HE2 := Lib.hid (fun he => errE_prep (ps := x.ps) (rs := x.rs) (f := f) (g := g) (h := h) he)
  have HBAD := Lib.hid (fun hv => err_bad (x := x) (n := N) (g := g) (h := h) hv)
  generalize doneE x.ps x.rs N = D1 at *
  generalize errD x.ps x.rs N = E1 at *
  generalize prepdE x.ps x.rs f g h = D2 at *
  generalize errP2 x.ps x.rs g h = E2 at *
  obtain ⟨⟨k0, k1⟩, k2, k3, k4⟩ := hA2.cs
  have HA2 := Lib.hid hA2
  clear hr hb2 hA2 hl1 hl2 hf1
  go_wp2_with fail
  refine (HD.out _ HA2.out.bel).mono ?_
  rintro e w3 ⟨z1, rfl, hz1, hzs1, hzf1, hb3⟩
  unfold entV
  obtain ⟨W3, hW3⟩ : ∃ W3, W3 = w3.alloc (Obj.cells #[.int .u8 z1.k, .string z1.name, .int .u64 z1.n, .int .u32 z1.xf, .string z1.xg, .string z1.xh, .slice z1.A1 z1.cs.length z1.c1, .slice z1.A2 z1.rs.length z1.c2] 57) := ⟨_, rfl⟩
  have hE1 : EntAt W3 w3.heap.size z1 := by rw [hW3]; exact EntAt.new hzs1 hzf1
  have hA3 := (HA2.out.step hb3).step (show Below w3.heap.size w3 W3 by rw [hW3]; exact below_boxV w3 _)
  clear k0 k1 k2 k3 k4
  obtain ⟨⟨k0, k1⟩, k2, k3, k4⟩ := hA3.cs
  have HA3 := Lib.hid (And.intro hA3 (And.intro hE1 hz1))
  have HW3 := Lib.hid hW3.symm
  clear hA3 hE1 hz1 hzs1 hzf1 hb3 hW3
  go_upto_region 4 with fail
  rw [HW3.out]
  go_wp2_with fail
  refine (HP.out _ HA3.out.1.bel).mono ?_
  rintro e w5 ⟨z3, rfl, hz3, hzs3, hzf3, hb5⟩
  unfold entV
  obtain ⟨W5, hW5⟩ : ∃ W5, W5 = w5.alloc (Obj.cells #[.int .u8 z3.k, .string z3.name, .int .u64 z3.n, .int .u32 z3.xf, .string z3.xg, .string z3.xh, .slice z3.A1 z3.cs.length z3.c1, .slice z3.A2 z3.rs.length z3.c2] 57) := ⟨_, rfl⟩
  have hE3 : EntAt W5 w5.heap.size z3 := by rw [hW5]; exact EntAt.new hzs3 hzf3
  have hb35 : Below W3.heap.size W3 W5 := hb5.trans ((show Below w5.heap.size w5 W5 by rw [hW5]; exact below_boxV w5 _).mono hb5.size)
  have hA5 := HA3.out.1.step hb35
  have h1 := HA3.out.2.1.kept hb35
  clear k0 k1 k2 k3 k4
  have HC1 := Lib.hid (fun w' (hb : Below W5.heap.size W5 w') => echeck_any z1 w' (h1.2.1.kept hb (Nat.le_refl _)) h1.2.2.few)
  have HC3 := Lib.hid (fun w' (hb : Below W5.heap.size W5 w') => echeck_any z3 w' (hE3.2.1.kept hb (Nat.le_refl _)) hE3.2.2.few)
  rw [HA3.out.2.2] at HC1
  rw [hz3] at HC3
  unfold entV at HC1 HC3
  have HEB := Lib.hid (And.intro h1 hE3)
  have HA5 := Lib.hid hA5
  obtain ⟨⟨a0, a1, a2⟩, ⟨a3, a4, a5⟩, a6, a7⟩ := h1.1.cells
  obtain ⟨⟨b0, b1, b2⟩, ⟨b3, b4, b5⟩, b6, b7⟩ := hE3.1.cells
  have HW5 := Lib.hid hW5.symm
  clear hA5 hE3 hz3 hzs3 hzf3 hb5 hb35 hW5 h1
  go_upto_region 5 with fail
  rw [HW5.out]
  go_cut [49] from 34 to 49 (fun a wx => a = .bool false ∧ Hid (Below W5.heap.size W5 wx))
  case first =>
    by_cases c1 : E1 = 0
    · have hc1 := HE1.out c1
      have HC1' := Lib.hid (HC1.out W5 (Below.refl _ _))
      rw [hc1] at HC1'
      subst c1
      clear hc1
      go_wp2_with fail
      refine HC1'.out.mono ?_
      rintro e w6 ⟨rfl, hb6⟩
      have HB6 := Lib.hid hb6
      have h3 := HEB.out.2.kept hb6
      clear a0 a1 a2 a3 a4 a5 a6 a7 b0 b1 b2 b3 b4 b5 b6 b7 hb6
      obtain ⟨⟨b0, b1, b2⟩, ⟨b3, b4, b5⟩, b6, b7⟩ := h3.1.cells
      clear h3
      by_cases c2 : E2 = 0
      · have hc2 := HE2.out c2
        have HC3' := Lib.hid (HC3.out w6 HB6.out)
        rw [hc2] at HC3'
        subst c2
        clear hc2
        go_wp2_with fail
        refine HC3'.out.mono ?_
        rintro e w7 ⟨rfl, hb7⟩
        have HB7 := Lib.hid (HB6.out.trans (hb7.mono HB6.out.size))
        clear hb7
        go_wp2_with fail
        go_meet
        case rel => exact ⟨rfl, HB7⟩
      · have t2 : ((E2 : Int) == 0) = false := by simp; omega
        clear c2
        go_wp2_with fail
        go_meet
        case rel => exact ⟨rfl, HB6⟩
    · have t1 : ((E1 : Int) == 0) = false := by simp; omega
      clear c1
      by_cases c2 : E2 = 0
      · have hc2 := HE2.out c2
        have HC3' := Lib.hid (HC3.out W5 (Below.refl _ _))
        rw [hc2] at HC3'
        subst c2
        clear hc2
        go_wp2_with fail
        refine HC3'.out.mono ?_
        rintro e w7 ⟨rfl, hb7⟩
        have HB7 := Lib.hid hb7
        clear hb7
        go_wp2_with fail
        go_meet
        case rel => exact ⟨rfl, HB7⟩
      · have t2 : ((E2 : Int) == 0) = false := by simp; omega
        clear c2
        go_wp2_with fail
        go_meet
        case rel => exact ⟨rfl, Lib.hid (Below.refl _ _)⟩
  case rest =>
    intros
    obtain ⟨rfl, hb6⟩ := hcut
    have hA6 := HA5.out.step hb6.out
    clear a0 a1 a2 a3 a4 a5 a6 a7 b0 b1 b2 b3 b4 b5 b6 b7 hb6
    obtain ⟨⟨k0, k1⟩, k2, k3, k4⟩ := hA6.cs
    have HA6 := Lib.hid hA6
    clear hA6
    go_wp2_with fail
    refine (HWC.out _ HA6.out.bel).mono ?_
    rintro e w7 ⟨rfl, hb7⟩
    have hA7 := HA6.out.step hb7
    clear k0 k1 k2 k3 k4
    obtain ⟨⟨k0, k1⟩, k2, k3, k4⟩ := hA7.cs
    have HA7 := Lib.hid hA7
    have HEW := Lib.hid (Eq.refl (errW x.ps x.rs))
    clear hA7 hb7
    by_cases hv : wB x.ps x.rs = true
    case neg =>
      have hv' : wB x.ps x.rs = false := by simpa using hv
      have hew := errW_no hv'
      obtain ⟨h1, h2, h3⟩ := HBAD.out hv'
      have HEM' := Lib.hid (HEM.out w7 HA7.out.bel)
      rw [h3] at HEM'
      rw [hew]
      have he1 : (E1 : Int) = 130 := by omega
      have he2 : (E2 : Int) = 130 := by omega
      subst h1 h2
      clear hv hv' hew h3 he1 he2 HEW
      go_wp2_with fail
      refine HEM'.out.mono ?_
      rintro e w8 ⟨rfl, hb8⟩
      have hz : decide (zW.cs.length + zW.rs.length = 0) = true := by decide
      rw [hz]
      have HB8 := Lib.hid (HA7.out.step hb8).bel
      clear hb8 k0 k1 k2 k3 k4 hz
      go_wp2_with fail
      refine (HHD.out _).mono ?_
      rintro e w9 ⟨rfl, hb9⟩
      have HB9 := Lib.hid (HB8.out.trans (hb9.mono HB8.out.size))
      clear hb9
      go_wp2_with fail
      go_ret
      exact ⟨rfl, HB9.out⟩
    have hew := errW_ok hv
    rw [hew]
    have HV := Lib.hid (wB_iff.1 hv)
    obtain ⟨W8, hW8⟩ : ∃ W8, W8 = w7.alloc (Obj.cells #[.slice none 0 0, .slice none 0 0] 25) := ⟨_, rfl⟩
    have hY0 : WayW w7 [] [] zW W8 := by rw [hW8]; exact WayW.new w7
    have HY0 := Lib.hid hY0
    have HW8 := Lib.hid hW8.symm
    have HSX := Lib.hid (fun w' (hb : Below w7.heap.size w7 w') => HSH.out.kept (HA7.out.bel.trans (hb.mono HA7.out.bel.size)) (Nat.le_refl _))
    have HAX := Lib.hid (fun w' (hb : Below w7.heap.size w7 w') => (HA7.out.step hb))
    clear hv hew hY0 hW8 k0 k1 k2 k3 k4
    have HXL := Lib.hid (And.intro (show x.cs.length ≤ 1000000 by have := HV.out.1; unfold WorkC.ps at this; rw [esOf_len] at this; omega) (show x.rs.length ≤ 1000000 by have := HV.out.2.1; omega))
    go_upto_region 10 with fail
    rw [HW8.out]
    go_wp2_with fail
    go_loopw [12] (fun iv wr => ∃ (j : Nat) (y : WorkC), j ≤ x.cs.length ∧ iv = .int .i64 j ∧ Hid (WayW w7 (x.ps.take j) [] y wr)) (fun i _ => x.cs.length - (intOf i).toNat)
    case atStart => exact ⟨0, zW, by omega, rfl, Lib.hid (by simpa using HY0.out)⟩
    case round =>
      rename World => wr
      obtain ⟨j, y, hj, rfl, hY⟩ := hrel
      have hlen := HXL.out.1
      obtain ⟨⟨k0, k1⟩, _, _, _⟩ := (HAX.out wr hY.out.bel).cs
      by_cases hlt : j < x.cs.length
      · obtain ⟨d, o, hXA, hd, ⟨e0, e1, e2, e3, e4, e5⟩, e6, e7, e8, e9, e10, e11⟩ := (HSX.out wr hY.out.bel).puts.at_ j hlt
        rw [hXA] at k0
        have hj1 : (j : Int) < (x.cs.length : Int) := by omega
        have hj0 : (0 : Int) ≤ (j : Int) := by omega
        have b3 : IntKind.i64.wrap ((j : Int) + 1) = (j : Int) + 1 := i64_id _ (by omega) (by omega)
        have c0 := hY.out.box.c0
        have c1 := hY.out.box.c1
        have HAP := Lib.hid (fun w' (hb : Below wr.heap.size wr w') => may_put HV.out HSH.out.takes.refs HF1.out j hlt (hY.out.step hb) ((HSX.out w' (hY.out.bel.trans (hb.mono hY.out.bel.size))).puts.each j hlt))
        have HKEEP := Lib.hid (fun w' (hb : Below wr.heap.size wr w') => (show w'.cell? ⟨w.heap.size, 0, none⟩ = some (.slice (some ⟨d, o, none⟩) x.cs.length x.c1) ∧ w'.cell? ⟨w.heap.size, 1, none⟩ = some (.slice x.A2 x.rs.length x.c2) ∧ w'.cell? ⟨w7.heap.size, 0, none⟩ = some (.slice y.A1 y.cs.length y.c1) ∧ w'.cell? ⟨w7.heap.size, 1, none⟩ = some (.slice y.A2 y.rs.length y.c2) ∧ w'.cell? ⟨d, o + j * 12, none⟩ = some (.string x.cs[j].e.q) ∧ w'.cell? ⟨d, o + j * 12 + 1, none⟩ = some (.int .u64 x.cs[j].e.id) ∧ w'.cell? ⟨d, o + j * 12 + 2, none⟩ = some (.string x.cs[j].e.p.key) ∧ w'.cell? ⟨d, o + j * 12 + 3, none⟩ = some (.bool x.cs[j].e.p.dur) ∧ w'.cell? ⟨d, o + j * 12 + 4, none⟩ = some (.bool x.cs[j].e.p.red) ∧ w'.cell? ⟨d, o + j * 12 + 5, none⟩ = some (.string x.cs[j].e.p.id) ∧ w'.cell? ⟨d, o + j * 12 + 6, none⟩ = some (.int .u8 x.cs[j].x.k) ∧ w'.cell? ⟨d, o + j * 12 + 7, none⟩ = some (.int .u64 x.cs[j].x.n) ∧ w'.cell? ⟨d, o + j * 12 + 8, none⟩ = some (.string x.cs[j].x.s) ∧ w'.cell? ⟨d, o + j * 12 + 9, none⟩ = some (.slice x.cs[j].x.a3 x.cs[j].x.n3 x.cs[j].x.c3) ∧ w'.cell? ⟨d, o + j * 12 + 10, none⟩ = some (.slice x.cs[j].x.a4 x.cs[j].x.n4 x.cs[j].x.c4) ∧ w'.cell? ⟨d, o + j * 12 + 11, none⟩ = some (.string x.cs[j].e.body) from by
          have hb9 := hY.out.bel.trans (hb.mono hY.out.bel.size)
          obtain ⟨⟨a0, a1⟩, _, _, _⟩ := (HAX.out w' hb9).cs
          rw [hXA] at a0
          obtain ⟨_, _, e, _, ⟨g0, g1, g2, g3, g4, g5⟩, g6, g7, g8, g9, g10, g11⟩ := (HSX.out w' hb9).puts.at_ j hlt
          rw [hXA] at e
          cases e
          exact ⟨a0, a1, (hY.out.step hb).box.c0, (hY.out.step hb).box.c1, g0, g1, g2, g3, g4, g5, g6, g7, g8, g9, g10, g11⟩))
        unfold workVal putV at HAP
        clear hd hlen hXA
        go_upto_region 13 with fail
        go_cut [13, 14] from 73 to 82 (fun a b wx => ∃ (y2 : WorkC) (bx : Nat), a = .pointer (some ⟨bx, 0, none⟩) ∧ b = .int .i64 0 ∧ Hid (WayR wr (x.ps.take (j + 1)) [] y2 bx wx))
        case first =>
          go_region_held3 (fun w' => w'.cell? ⟨w.heap.size, 0, none⟩ = some (.slice (some ⟨d, o, none⟩) x.cs.length x.c1) ∧ w'.cell? ⟨w.heap.size, 1, none⟩ = some (.slice x.A2 x.rs.length x.c2) ∧ w'.cell? ⟨w7.heap.size, 0, none⟩ = some (.slice y.A1 y.cs.length y.c1) ∧ w'.cell? ⟨w7.heap.size, 1, none⟩ = some (.slice y.A2 y.rs.length y.c2) ∧ w'.cell? ⟨d, o + j * 12, none⟩ = some (.string x.cs[j].e.q) ∧ w'.cell? ⟨d, o + j * 12 + 1, none⟩ = some (.int .u64 x.cs[j].e.id) ∧ w'.cell? ⟨d, o + j * 12 + 2, none⟩ = some (.string x.cs[j].e.p.key) ∧ w'.cell? ⟨d, o + j * 12 + 3, none⟩ = some (.bool x.cs[j].e.p.dur) ∧ w'.cell? ⟨d, o + j * 12 + 4, none⟩ = some (.bool x.cs[j].e.p.red) ∧ w'.cell? ⟨d, o + j * 12 + 5, none⟩ = some (.string x.cs[j].e.p.id) ∧ w'.cell? ⟨d, o + j * 12 + 6, none⟩ = some (.int .u8 x.cs[j].x.k) ∧ w'.cell? ⟨d, o + j * 12 + 7, none⟩ = some (.int .u64 x.cs[j].x.n) ∧ w'.cell? ⟨d, o + j * 12 + 8, none⟩ = some (.string x.cs[j].x.s) ∧ w'.cell? ⟨d, o + j * 12 + 9, none⟩ = some (.slice x.cs[j].x.a3 x.cs[j].x.n3 x.cs[j].x.c3) ∧ w'.cell? ⟨d, o + j * 12 + 10, none⟩ = some (.slice x.cs[j].x.a4 x.cs[j].x.n4 x.cs[j].x.c4) ∧ w'.cell? ⟨d, o + j * 12 + 11, none⟩ = some (.string x.cs[j].e.body))
            (first
              | with_reducible exact HKEEP.out _ (below_drew1 (Below.refl _ _))
              | with_reducible exact HKEEP.out _ (below_drew1 (below_boxV _ _))
              | with_reducible exact HKEEP.out _ hQ
              | with_reducible exact HKEEP.out _ (hQ.alloc hQ.size _)
              | with_reducible exact HKEEP.out _ (below_set (below_set hQ (Nat.le_refl _) _) (Nat.le_refl _) _)
              | with_reducible exact HKEEP.out _ (below_set (below_set (hQ.alloc hQ.size _) hQ.size _) hQ.size _))
            (first
              | (go_at_call 11
                 first
                   | (with_reducible refine (HAP.out _ (below_drew1 (Below.refl _ _))).mono ?_
                      rintro e w2 ⟨y2, rfl, h1, h2, h3, h4⟩
                      have hQ := (below_drew1 (Below.refl wr.heap.size wr)).trans h4
                      have HR := Lib.hid (wayR1 (wr := wr) h1 h2 h3 hQ)
                      clear h1 h2 h3 h4)
                   | (with_reducible refine (HAP.out _ (below_drew1 (below_boxV _ _))).mono ?_
                      rintro e w2 ⟨y2, rfl, h1, h2, h3, h4⟩
                      have hQ := (below_drew1 (below_boxV wr (Obj.cells #[.slice none 0 0, .slice none 0 0] 25))).trans (h4.mono (below_boxV wr _).size)
                      have hq := BoxK.kept (show BoxK (wr.alloc (Obj.cells #[.slice none 0 0, .slice none 0 0] 25)).drew wr.heap.size (.slice none 0 0) (.slice none 0 0) from BoxK.new wr _ _) h4 (Nat.le_refl _)
                      have q0 := hq.c0
                      have q1 := hq.c1
                      have q2 := hq.fr 0
                      have q3 := hq.fr 1
                      have HR := Lib.hid (wayR2 (wr := wr) h1 h2 h3 hQ hq (World.size_alloc _ _))
                      clear h1 h2 h3 h4)))
          all_goals
            go_wp2_with fail
            go_meet
            case rel => exact ⟨y2, _, rfl, rfl, HR⟩
        case rest =>
          intros
          obtain ⟨y2, bx, rfl, rfl, hR⟩ := hcut
          rename World => wx
          obtain ⟨hbx, hO, hps, hrs, hbl⟩ := hR.out
          have b0 := hbx.c0
          have b1 := hbx.c1
          have hyx := hY.out.step hbl
          have c0' := hyx.box.c0
          have c1' := hyx.box.c1
          have c2' := hyx.box.fr 0
          have c3' := hyx.box.fr 1
          have HS := Lib.hid (hY.out.set hbl hO hps hrs)
          clear k0 k1 e0 e1 e2 e3 e4 e5 e6 e7 e8 e9 e10 e11 c0 c1 hbx hO hps hrs hbl hyx
          go_wp2_with fail
          go_roundw
          case rel => exact ⟨j + 1, y2, by omega, by go_num, HS⟩
          case measure => simp [intOf]; omega
      · have hjl : ¬ (j : Int) < (x.cs.length : Int) := by omega
        have hY1 : Hid (WayW w7 x.ps [] y wr) := Lib.hid (by
          have := hY.out
          rw [List.take_of_length_le (by unfold WorkC.ps; rw [esOf_len]; omega)] at this
          exact this)
        clear hY hlt hlen
        go_upto_region 17 with fail
        clear k0 k1
        go_wp2_with fail
        clear hj hjl
        go_loopw [15] (fun iv wr => ∃ (j : Nat) (y : WorkC), j ≤ x.rs.length ∧ iv = .int .i64 j ∧ Hid (WayW w7 x.ps (x.rs.take j) y wr)) (fun i _ => x.rs.length - (intOf i).toNat)
        case atStart => exact ⟨0, y, by omega, rfl, Lib.hid (by simpa using hY1.out)⟩
        case round =>
          rename World => wr
          obtain ⟨j, y, hj, rfl, hY⟩ := hrel
          have hlen := HXL.out.2
          obtain ⟨⟨k0, k1⟩, _, _, _⟩ := (HAX.out wr hY.out.bel).cs
          by_cases hlt : j < x.rs.length
          · obtain ⟨d, o, hXA, hd, e0, e1⟩ := (HSX.out wr hY.out.bel).takes.at_ j hlt
            rw [hXA] at k1
            have hj1 : (j : Int) < (x.rs.length : Int) := by omega
            have hj0 : (0 : Int) ≤ (j : Int) := by omega
            have b3 : IntKind.i64.wrap ((j : Int) + 1) = (j : Int) + 1 := i64_id _ (by omega) (by omega)
            have c0 := hY.out.box.c0
            have c1 := hY.out.box.c1
            have HAP := Lib.hid (fun w' (hb : Below wr.heap.size wr w') => may_take HV.out HSH.out.takes.refs HF1.out j hlt (hY.out.step hb))
            have HKEEP := Lib.hid (fun w' (hb : Below wr.heap.size wr w') => (show w'.cell? ⟨w.heap.size, 0, none⟩ = some (.slice x.A1 x.cs.length x.c1) ∧ w'.cell? ⟨w.heap.size, 1, none⟩ = some (.slice (some ⟨d, o, none⟩) x.rs.length x.c2) ∧ w'.cell? ⟨w7.heap.size, 0, none⟩ = some (.slice y.A1 y.cs.length y.c1) ∧ w'.cell? ⟨w7.heap.size, 1, none⟩ = some (.slice y.A2 y.rs.length y.c2) ∧ w'.cell? ⟨d, o + j * 2, none⟩ = some (.string x.rs[j].q) ∧ w'.cell? ⟨d, o + j * 2 + 1, none⟩ = some (.int .u64 x.rs[j].id) from by
              have hb9 := hY.out.bel.trans (hb.mono hY.out.bel.size)
              obtain ⟨⟨a0, a1⟩, _, _, _⟩ := (HAX.out w' hb9).cs
              rw [hXA] at a1
              obtain ⟨_, _, e, _, g0, g1⟩ := (HSX.out w' hb9).takes.at_ j hlt
              rw [hXA] at e
              cases e
              exact ⟨a0, a1, (hY.out.step hb).box.c0, (hY.out.step hb).box.c1, g0, g1⟩))
            unfold workVal refV at HAP
            clear hd hlen hXA
            go_upto_region 20 with fail
            go_cut [16, 17] from 93 to 102 (fun a b wx => ∃ (y2 : WorkC) (bx : Nat), a = .pointer (some ⟨bx, 0, none⟩) ∧ b = .int .i64 0 ∧ Hid (WayR wr x.ps (x.rs.take (j + 1)) y2 bx wx))
            case first =>
              go_region_held3 (fun w' => w'.cell? ⟨w.heap.size, 0, none⟩ = some (.slice x.A1 x.cs.length x.c1) ∧ w'.cell? ⟨w.heap.size, 1, none⟩ = some (.slice (some ⟨d, o, none⟩) x.rs.length x.c2) ∧ w'.cell? ⟨w7.heap.size, 0, none⟩ = some (.slice y.A1 y.cs.length y.c1) ∧ w'.cell? ⟨w7.heap.size, 1, none⟩ = some (.slice y.A2 y.rs.length y.c2) ∧ w'.cell? ⟨d, o + j * 2, none⟩ = some (.string x.rs[j].q) ∧ w'.cell? ⟨d, o + j * 2 + 1, none⟩ = some (.int .u64 x.rs[j].id))
                (first
                  | with_reducible exact HKEEP.out _ (below_drew1 (Below.refl _ _))
                  | with_reducible exact HKEEP.out _ (below_drew1 (below_boxV _ _))
                  | with_reducible exact HKEEP.out _ hQ
                  | with_reducible exact HKEEP.out _ (hQ.alloc hQ.size _)
                  | with_reducible exact HKEEP.out _ (below_set (below_set hQ (Nat.le_refl _) _) (Nat.le_refl _) _)
                  | with_reducible exact HKEEP.out _ (below_set (below_set (hQ.alloc hQ.size _) hQ.size _) hQ.size _))
                (first
                  | (go_at_call 13
                     first
                       | (with_reducible refine (HAP.out _ (below_drew1 (Below.refl _ _))).mono ?_
                          rintro e w2 ⟨y2, rfl, h1, h2, h3, h4⟩
                          have hQ := (below_drew1 (Below.refl wr.heap.size wr)).trans h4
                          have HR := Lib.hid (wayR1 (wr := wr) h1 h2 h3 hQ)
                          clear h1 h2 h3 h4)
                       | (with_reducible refine (HAP.out _ (below_drew1 (below_boxV _ _))).mono ?_
                          rintro e w2 ⟨y2, rfl, h1, h2, h3, h4⟩
                          have hQ := (below_drew1 (below_boxV wr (Obj.cells #[.slice none 0 0, .slice none 0 0] 25))).trans (h4.mono (below_boxV wr _).size)
                          have hq := BoxK.kept (show BoxK (wr.alloc (Obj.cells #[.slice none 0 0, .slice none 0 0] 25)).drew wr.heap.size (.slice none 0 0) (.slice none 0 0) from BoxK.new wr _ _) h4 (Nat.le_refl _)
                          have q0 := hq.c0
                          have q1 := hq.c1
                          have q2 := hq.fr 0
                          have q3 := hq.fr 1
                          have HR := Lib.hid (wayR2 (wr := wr) h1 h2 h3 hQ hq (World.size_alloc _ _))
                          clear h1 h2 h3 h4)))
              all_goals
                go_wp2_with fail
                go_meet
                case rel => exact ⟨y2, _, rfl, rfl, HR⟩
            case rest =>
              intros
              obtain ⟨y2, bx, rfl, rfl, hR⟩ := hcut
              rename World => wx
              obtain ⟨hbx, hO, hps, hrs, hbl⟩ := hR.out
              have b0 := hbx.c0
              have b1 := hbx.c1
              have hyx := hY.out.step hbl
              have c0' := hyx.box.c0
              have c1' := hyx.box.c1
              have c2' := hyx.box.fr 0
              have c3' := hyx.box.fr 1
              have HS := Lib.hid (hY.out.set hbl hO hps hrs)
              clear k0 k1 e0 e1 c0 c1 hbx hO hps hrs hbl hyx
              go_wp2_with fail
              go_roundw
              case rel => exact ⟨j + 1, y2, by omega, by go_num, HS⟩
              case measure => simp [intOf]; omega
          · have hjl : ¬ (j : Int) < (x.rs.length : Int) := by omega
            have hY1 : Hid (WayW w7 x.ps x.rs y wr) := Lib.hid (by
              have := hY.out
              rw [List.take_of_length_le (by omega)] at this
              exact this)
            have c0 := hY.out.box.c0
            have c1 := hY.out.box.c1
            have hys : ShowsW wr y := hY1.out.sh HV.out (Nat.le_refl _) HSH.out.takes.refs (fun r hr => hr) (Nat.le_refl _)
            have hyf : FewS y.cs := hY1.out.few (fewS_iff.1 HF1.out)
            have HSM2 := Lib.hid (qsamew_any y x wr hys (HSX.out wr hY.out.bel))
            have hsm : sameW y x = true := sameW_iff.2 ⟨hY1.out.p, hY1.out.r⟩
            rw [hsm] at HSM2
            have HCK2 := Lib.hid (fun w' (hb : Below wr.heap.size wr w') => wcheck_any y w' (hys.kept hb (Nat.le_refl _)) hyf.few)
            have hew : errW y.ps y.rs = 0 := by rw [hY1.out.p, hY1.out.r]; exact errW_ok (wB_iff.2 HV.out)
            rw [hew] at HCK2
            unfold workVal at HSM2 HCK2
            have HWY := Lib.hid (fun w' (hb : Below wr.heap.size wr w') => (hY1.out.step hb))
            have HWB := Lib.hid (HA7.out.bel.trans (hY.out.bel.mono HA7.out.bel.size))
            clear hY hY1 hlt hlen hj hys hyf hsm hew
            go_upto_region 24 with fail
            clear hjl
            go_wp2_with fail
            refine HSM2.out.mono ?_
            rintro e w8 ⟨rfl, hb8⟩
            have hy8 := HWY.out w8 hb8
            clear k0 k1 c0 c1
            have c0 := hy8.box.c0
            have c1 := hy8.box.c1
            have HB8 := Lib.hid hb8
            clear hy8 hb8
            go_wp2_with fail
            refine (HCK2.out _ HB8.out).mono ?_
            rintro e w9 ⟨rfl, hb9⟩
            have HB9 := Lib.hid (HWB.out.trans ((HB8.out.trans (hb9.mono HB8.out.size)).mono HWB.out.size))
            clear c0 c1 hb9
            go_wp2_with fail
            refine (HHD.out _).mono ?_
            rintro e w10 ⟨rfl, hb10⟩
            have HB10 := Lib.hid (HB9.out.trans (hb10.mono HB9.out.size))
            clear hb10
            go_wp2_with fail
            go_ret
            exact ⟨rfl, HB10.out⟩

set_option maxRecDepth 100000 in
set_option maxHeartbeats 1000000 in
theorem wmay_walk_lifted (os : Os) (started : os.Started) (H : Type) (enc : TypeId × Value → H) :
    ReturnsInHanded {} Tryz.checked os 6 .any (Rows.workMaySpec.pre6 enc Tryz.prog Tryz.f6 Rows.workMayRow.domain false) (Rows.workMaySpec.post enc Tryz.prog Tryz.f6 false true false false) := by
  refine returnsInHanded_of_change_sized (C := Tryz.checked) own started (by kernel_rfl) Tryz.func6
    (ChangeSpec.witness6 (enc := enc) (C := Tryz.checked) false ⟨#[], #[.agg #[.slice none 0 0, .slice none 0 0], .int .u64 0, .agg #[.int .u32 0, .string ⟨#[]⟩, .string ⟨#[]⟩]], []⟩ 8 (by kernel_rfl) (by kernel_rfl) (by kernel_rfl) (by kernel_rfl)) ?_
  intro W base args ds gs before hval0 hW hcnd hsz0 _
  have hval : ∀ (j : Nat) t v, Tryz.f6.params[j]? = some t → args[j]? = some v → Value.okWide Tryz.prog W .any base t v := hval0
  have hsz : (DataW.weightsEach Tryz.prog (Tryz.f6.params.toList ++ Rows.workMaySpec.plain.varTypes Tryz.prog) (ds ++ gs)).all (· ≤ reachBytes) = true := hsz0
  have hW' := hW
  obtain ⟨p, q, hA0, hV, rfl, hfz, hnd⟩ := hW
  have hA : DataW.TrodAll enc Tryz.prog W 0 (fun _ => true) true Tryz.f6.params.toList args.toList ds p := hA0
  rw [Tryz.params6] at hA hval hsz
  obtain ⟨v0, vs0, d0, ds0, p0, q0, hargs, rfl, rfl, h0, r0⟩ := trodAll_cons hA
  obtain ⟨v1, vs1, d1, ds1, p1, q1, rfl, rfl, rfl, h1, r1⟩ := trodAll_cons r0
  obtain ⟨v2, vs2, d2, ds2, p2, q2, rfl, rfl, rfl, h2, r2⟩ := trodAll_cons r1
  obtain ⟨rfl, rfl, rfl⟩ := trodAll_nil r2
  obtain rfl : args = #[v0, v1, v2] := by cases args; simp_all
  obtain ⟨rfl, rfl⟩ := trodVars_none hV
  have k0 := h0
  have lt0 : ∀ x ∈ p0, x.block < W.heap.size := by obtain ⟨m, hm⟩ := k0; exact DataW.trod_lt m _ _ _ hm
  have k1 := h1
  have lt1 : ∀ x ∈ p1, x.block < W.heap.size := by obtain ⟨m, hm⟩ := k1; exact DataW.trod_lt m _ _ _ hm
  have k2 := h2
  have lt2 : ∀ x ∈ p2, x.block < W.heap.size := by obtain ⟨m, hm⟩ := k2; exact DataW.trod_lt m _ _ _ hm
  obtain ⟨X0, rfl, sh0⟩ := open_work (hval 0 25 v0 rfl rfl) h0 hsz 0 rfl rfl
  obtain ⟨s1, rfl, rfl, rfl, ws1⟩ := open_int Tryz.underlying26 (hval 1 26 v1 rfl rfl) h1
  obtain ⟨s10, s11⟩ := u64_range ws1
  obtain ⟨S1, rfl⟩ := Int.eq_ofNat_of_zero_le s10
  obtain ⟨f2, g2, x2, rfl, xf2, xg2, xh2⟩ := open_xid (hval 2 55 v2 rfl rfl) h2 hsz 2 rfl rfl
  clear hA0 hval0
  refine (wmay_walk X0 S1 f2 g2 x2 W sh0 (by omega) xf2 xg2 xh2).mono fun e W' ⟨he, bel⟩ => ?_
  subst he
  exact ⟨_, rfl, _, _, _, [], _, [], hW', trodAll_mk1 (shut_bool Tryz.underlying4 _), (trodAll_cons_mk (Below.trod laidOut (by kernel_rfl) (of_decide_eq_true (by kernel_rfl)) k0 bel lt0) (trodAll_cons_mk (Below.trod laidOut (by kernel_rfl) (of_decide_eq_true (by kernel_rfl)) k1 bel lt1) (trodAll_cons_mk (Below.trod laidOut (by kernel_rfl) (of_decide_eq_true (by kernel_rfl)) k2 bel lt2) trodAll_mk0))), rfl, bel.frame _, fun h => by cases h⟩

theorem workMay_holds : Rows.WorkMaySaid :=
  OpenClaim.holds_of_wide 6 Tryz.f6 rfl rfl rfl rfl rfl rfl rfl ⟨rfl, rfl, rfl, rfl, rfl⟩ rfl rfl rfl rfl rfl (by kernel_rfl) Tryz.func6 (by kernel_rfl)
    (of_decide_eq_true (by kernel_rfl)) (by unfold Func.isWrapper; first | (rw [if_pos (by decide +kernel)]; kernel_rfl) | (rw [if_neg (by decide +kernel)]; exact ⟨rfl, rfl⟩))
    (fun os started H enc _ => wmay_walk_lifted os started H enc)
#print axioms workMay_holds
end Go.Proofs.YtpmafabphlejeaaGreat
