/-
  The contract of disk.Copy, of a disk that is alive.
  Conditions: none but sizes.
-/
import Derived.Test.YtngjmeohleoglaaDiW
import Derived.Test.YtngjmeohleoglaaDiT
import Derived.Test.YtngjmeohleoglaaDiE
import Derived.Deep.RegionHeld3
namespace Go.Proofs.Ytngjmeohleoglaa
open Go.RowKit Go.Shelf
set_option linter.unusedVariables false
set_option linter.unusedSimpArgs false
set_option maxRecDepth 100000

/-- The copy, while it is filled. -/
structure CopyS (w0 : World) (C : List PF) (st : DD) (w : World) : Prop where
  box : BoxD w w0.heap.size st.room (usedL st.fs) (w0.heap.size + 1) st.fuse st.down
  map : MapS strFam w (w0.heap.size + 1) (Lof C)
  file : ∀ x ∈ C, BoxI w x.p x.v x.f.safe ∧ Own 5 w w0.heap.size x.v x.f.b
  apart : C.Pairwise ApartF
  low : ∀ x ∈ C, w0.heap.size ≤ x.p

section
variable {w0 w w1 w' : World} {C : List PF} {st : DD} {base nb mb n : Nat} {X : List PF} {F : Nat → Prop}
theorem CopyS.keep (h : CopyS w0 C st w) (hb : Below w.heap.size w w') : CopyS w0 C st w' :=
  ⟨(hb.block _ h.box.lt).trans h.box, h.map.keep (hb.block _ h.map.lt), fun x hx => ⟨(hb.block _ (h.file x hx).1.lt).trans (h.file x hx).1, (h.file x hx).2.keep fun g hg => hb.block g ((h.file x hx).2.block g hg).2⟩, h.apart, h.low⟩
theorem lof_fresh {q : DName} (h : ∀ x ∈ C, x.q ≠ q) (u : Value) : putA q u (Lof C) = Lof C ++ [(q, u)] :=
  putA_none fun y hy => by obtain ⟨x, hx, rfl⟩ := List.mem_map.1 hy; exact h x hx
theorem CopyS.push (h : CopyS w0 C st w) (hw0 : w0.heap.size ≤ w.heap.size) {q : DName} {v : Value} {f : FD} (hq : ∀ x ∈ C, x.q ≠ q) (hb1 : Below w.heap.size w w1) (ho : Own 5 w1 w.heap.size v f.b)
    (hm : MapS strFam w' (w0.heap.size + 1) (putA q (.pointer (some ⟨w1.heap.size, 0, none⟩)) (Lof C))) (hg : (w1.alloc (.cells #[v, .int .i64 f.safe] 69)).grownBy w' (some (w0.heap.size + 1))) :
    CopyS w0 (C ++ [⟨q, w1.heap.size, v, f⟩]) st w' := by
  have hz1 := hb1.size
  have hk : ∀ k, k < w.heap.size → k ≠ w0.heap.size + 1 → w'.heap[k]? = w.heap[k]? := fun k hk hne => by
    rw [hg.block k (by simp; omega) (fun e => hne (Option.some.inj e)), Below.heap_alloc w1 _ k (by omega), hb1.block k hk]
  have hml := h.map.lt
  have hbx : BoxI w' w1.heap.size v f.safe := by
    show w'.heap[w1.heap.size]? = _
    have hne : w1.heap.size ≠ w0.heap.size + 1 := by omega
    rw [hg.block w1.heap.size (by simp) (fun e => hne (Option.some.inj e))]
    exact heap_alloc_new w1 _
  have hov : Own 5 w' w0.heap.size v f.b := (ho.mono hw0).keep fun g hg' => by
    have := ho.block g hg'
    have hne : g ≠ w0.heap.size + 1 := by omega
    rw [hg.block g (by simp; omega) (fun e => hne (Option.some.inj e)), Below.heap_alloc w1 _ g (by omega)]
  refine ⟨(hk _ h.box.lt (by omega)).trans h.box, ?_, fun x hx => ?_, ?_, fun x hx => ?_⟩
  · rw [lof_fresh hq] at hm
    simpa [Lof, PF.ptr] using hm
  · rcases List.mem_append.1 hx with hx | hx
    · obtain ⟨f1, f2⟩ := h.file x hx
      refine ⟨(hk _ f1.lt (h.map.neCells f1)).trans f1, f2.keep fun g hg' => hk g (f2.block g hg').2 fun e => ?_⟩
      rcases f2.2 with ⟨e2, _⟩ | ⟨g2, cap, cur, e2, _, hg2, _⟩
      · rw [e2] at hg'; cases hg'
      · rw [e2] at hg'
        have : g2 = g := by simpa [Value.ownBlock] using hg'
        exact h.map.neCells hg2 (this.trans e)
    · simp only [List.mem_singleton] at hx
      subst hx
      exact ⟨hbx, hov⟩
  · rw [List.pairwise_append]
    refine ⟨h.apart, List.pairwise_singleton _ _, fun x hx y hy => ?_⟩
    simp only [List.mem_singleton] at hy
    subst hy
    obtain ⟨f1, f2⟩ := h.file x hx
    refine ⟨by have := f1.lt; show x.p ≠ w1.heap.size; omega, fun k hk1 hk2 => ?_⟩
    have h1 := (f2.block k hk1).2
    have h2 := (ho.block k hk2).1
    omega
  · rcases List.mem_append.1 hx with hx | hx
    · exact h.low x hx
    · simp only [List.mem_singleton] at hx
      subst hx
      show w0.heap.size ≤ w1.heap.size
      omega
theorem CopyS.done (h : CopyS w0 C st w) (hp : (Dof C).Perm st.fs) : ∃ F', DiskM w w0.heap.size w0.heap.size st F' ∧ F' w0.heap.size := by
  have hI : DiskI w w0.heap.size w0.heap.size (w0.heap.size + 1) C st := ⟨h.box, h.map, hp, h.file, h.apart, by
    rintro k (rfl | rfl | ⟨x, hx, rfl | hk⟩)
    · exact Nat.le_refl _
    · omega
    · exact h.low x hx
    · exact ((h.file x hx).2.block k hk).1⟩
  exact ⟨footD w0.heap.size (w0.heap.size + 1) C, ⟨⟨_, _, hI, fun _ hk => hk⟩, fun k hk => ⟨hI.low k hk, hI.lt k hk⟩⟩, .inl rfl⟩

theorem CopyS.iter (h : CopyS w0 C st w) {b r : Nat} {L left : List (DName × Value)} (hr : RangS strFam w b r L left) (hg : w.grownBy w' (some r)) : CopyS w0 C st w' := by
  obtain ⟨⟨es, clock, since, seen, c0, hb, hs, he, hrr, _⟩, _⟩ := hr
  have key : ∀ k cs t fr, w.heap[k]? = some (Obj.cells cs t fr) → w'.heap[k]? = w.heap[k]? := fun k cs t fr hk => hg.block k (Array.getElem?_eq_some_iff.1 hk).1 (fun e => by
    have e2 := Option.some.inj e
    rw [← e2, hk] at hrr
    cases hrr)
  have hmb : w'.heap[w0.heap.size + 1]? = w.heap[w0.heap.size + 1]? := hg.block _ h.map.lt (fun e => by
    have e2 := Option.some.inj e
    obtain ⟨⟨es2, clock2, hb2, _⟩, _⟩ := h.map
    rw [← e2, hb2] at hrr
    cases hrr)
  refine ⟨(key _ _ _ _ h.box).trans h.box, h.map.keep hmb, fun x hx => ?_, h.apart, h.low⟩
  obtain ⟨f1, f2⟩ := h.file x hx
  refine ⟨(key _ _ _ _ f1).trans f1, f2.keep fun g hg' => ?_⟩
  rcases f2.2 with ⟨e2, _⟩ | ⟨g2, cap, cur, e2, _, hg2, _⟩
  · rw [e2] at hg'; cases hg'
  · rw [e2] at hg'
    have : g2 = g := by simpa [Value.ownBlock] using hg'
    subst this
    exact key _ _ _ _ hg2
theorem lof_split {Y : List PF} {l1 l2 : List (DName × Value)} {q : DName} {v : Value} (h : Lof Y = l1 ++ (q, v) :: l2) : ∃ a x c, Y = a ++ x :: c ∧ Lof (a ++ c) = l1 ++ l2 ∧ x.q = q ∧ x.ptr = v := by
  obtain ⟨a, x, c, h1, h2, h3, h4⟩ := map_split h
  have h5 := Prod.mk.inj h3
  exact ⟨a, x, c, h1, by unfold Lof; rw [List.map_append, h2, h4], h5.1, h5.2⟩
theorem keys_fresh {Y a c : List PF} {x : PF} (hn : (X.map (·.q)).Nodup) (hp : (Dof C ++ Dof Y).Perm (Dof X)) (hY : Y = a ++ x :: c) : ∀ y ∈ C, y.q ≠ x.q := by
  have h1 : ((Dof C ++ Dof Y).map (·.1)).Nodup := (hp.map _).nodup_iff.2 (by simpa [Dof, Function.comp_def] using hn)
  intro y hy e
  rw [List.map_append, List.nodup_append] at h1
  exact h1.2.2 y.q (by simp [Dof]; exact ⟨y, hy, rfl⟩) x.q (by rw [hY]; simp [Dof]) e

set_option maxHeartbeats 4000000 in
theorem copy_any (h : DiskI w base nb mb X st) (hwf : DWf n st) (hn : n ≤ 1000000) :
    Calls Try.prog 13 #[.pointer (some ⟨nb, 0, none⟩)] w fun e w' => e = .returned (.pointer (some ⟨w.heap.size, 0, none⟩)) ∧ (∃ F', DiskM w' w.heap.size w.heap.size st F' ∧ F' w.heap.size) ∧ Below w.heap.size w w' := by
  have HC := Lib.hid (made_any h.box)
  obtain ⟨b0, b1, b2, b3, b4⟩ := And.intro h.box.c0 (And.intro h.box.c1 (And.intro h.box.c2 (And.intro h.box.c3 h.box.c4)))
  have HI := Lib.hid (fun W (hb : Below w.heap.size w W) => h.keep (w' := W) fun k hk => hb.block k (h.lt k hk))
  have hkl : ∀ x ∈ X, x.q.length ≤ 40 ∧ x.f.b.length ≤ 1048576 := fun x hx => by
    have : (x.q, x.f) ∈ st.fs := h.perm.mem_iff.1 (List.mem_map.2 ⟨x, hx, rfl⟩)
    have := hwf.each _ this
    exact ⟨this.1, this.2.1⟩
  have HK := Lib.hid hkl
  have HND := Lib.hid h.nodup
  have HPM := Lib.hid h.perm
  have hmk : ∀ u : World, (Instr.makeMap 48 none).run Try.prog u = .ok (.map (some u.heap.size)) (u.alloc (.map #[] 0)) := fun u => by simp [Instr.makeMap, run_underlying Try.underlying48, Result.andThen]
  clear hkl
  go_enter Try.func13, Try.ntmps13
  go_wp2_with fail
  with_reducible refine HC.out.mono ?_
  rintro e w1 ⟨rfl, rfl⟩
  have hB0 := heap_alloc_new w1 (.cells #[.int .i64 st.room, .int .i64 (usedL st.fs), .map (some mb), .int .i64 st.fuse, .bool st.down] 50)
  have hbA : Below w1.heap.size w1 (w1.alloc (.cells #[.int .i64 st.room, .int .i64 (usedL st.fs), .map (some mb), .int .i64 st.fuse, .bool st.down] 50)) := (Below.refl _ _).alloc (Nat.le_refl _) _
  have hzA : (w1.alloc (.cells #[.int .i64 st.room, .int .i64 (usedL st.fs), .map (some mb), .int .i64 st.fuse, .bool st.down] 50)).heap.size = w1.heap.size + 1 := by simp
  go_upto_region 4 with fail
  generalize w1.alloc _ = W1 at *
  have x2 : W1.cell? ⟨w1.heap.size, 2, none⟩ = some (.map (some mb)) := by rw [cell_of_row _ _ _ _ _ (0, 0) hB0]; rfl
  have xf : W1.frozen? ⟨w1.heap.size, 2, none⟩ = false := frozen_of_row W1 _ 2 _ _ hB0
  have y2 : (W1.alloc (.map #[] 0)).cell? ⟨w1.heap.size, 2, none⟩ = some (.map (some mb)) := (World.cell?_of_block (w := W1) (Below.heap_alloc W1 (.map #[] 0) w1.heap.size (by omega))).trans x2
  have hB1 : (W1.alloc (.map #[] 0)).heap[w1.heap.size]? = some (.cells #[.int .i64 st.room, .int .i64 (usedL st.fs), .map (some mb), .int .i64 st.fuse, .bool st.down] 50 (0, 0)) := (Below.heap_alloc W1 (.map #[] 0) w1.heap.size (by omega)).trans hB0
  have yf : (W1.alloc (.map #[] 0)).frozen? ⟨w1.heap.size, 2, none⟩ = false := frozen_of_row _ _ 2 _ _ hB1
  have HB1 := Lib.hid hB1
  have HZA := Lib.hid hzA
  clear hB0 hzA hB1
  have hS0 : CopyS w1 [] st ((W1.alloc (.map #[] 0)).setCell ⟨w1.heap.size, 2, none⟩ (.map (some (w1.heap.size + 1)))) := by
    refine ⟨heap_setCell_same _ _ 2 _ 50 (.map (some (w1.heap.size + 1))) HB1.out, ?_, fun x hx => absurd hx (by simp), List.Pairwise.nil, fun x hx => absurd hx (by simp)⟩
    have := MapS.new strFam W1
    rw [HZA.out] at this
    exact this.keep (heap_setCell_other _ _ _ _ (by simp))
  have hb2 : Below w1.heap.size w1 ((W1.alloc (.map #[] 0)).setCell ⟨w1.heap.size, 2, none⟩ (.map (some (w1.heap.size + 1)))) := below_set (hbA.alloc hbA.size _) (Nat.le_refl _) _
  go_upto_region 5 with fail
  rw [HZA.out]
  generalize World.setCell _ _ _ = W2 at *
  have hI2 := HI.out W2 hb2
  have z2 := hI2.box.c2
  have hmap2 := hI2.map
  clear b0 b1 b2 b3 b4 x2 xf y2 yf hbA
  go_wp2_with (at_range; refine wpList_rangeS (fam := strFam) _ rfl (.tmp 17) rfl Try.underlying48 rfl hmap2 ?_; intro W3 hrg3 hg3 hs3)
  have hb3 : Below w1.heap.size w1 W3 := hb2.grown hg3 hb2.size (fun j hj => by cases hj)
  have hS3 : CopyS w1 [] st W3 := hS0.keep ((Below.refl _ _).grown hg3 (Nat.le_refl _) (fun j hj => by cases hj))
  have hrz : w1.heap.size + 1 < W2.heap.size := hS0.map.lt
  have HRZ := Lib.hid hrz
  clear hg3 hs3 hmap2 z2 hI2 hS0 hb2 hrz
  generalize W2.heap.size = r at *
  go_frame
  go_loopw [4] (fun _ wr => ∃ (C Y : List PF), RangS strFam wr mb r (Lof X) (Lof Y) ∧ CopyS w1 C st wr ∧ Hid ((Dof C ++ Dof Y).Perm (Dof X)) ∧ Hid (∀ y ∈ Y, y ∈ X) ∧ Below w1.heap.size w1 wr) (fun _ wr => wr.rangeLeft mb r)
  case atStart => exact ⟨[], X, hrg3, hS3, Lib.hid (by simp [Dof]), Lib.hid (fun _ h => h), hb3⟩
  case round =>
    rename World => wr
    obtain ⟨C, Y, hrg, hS, hpm, hYX, hbw⟩ := hrel
    go_wp2_with (first
      | (at_next; refine wpList_nextS (fam := strFam) (b := mb) (r := r) (L := Lof X) (left := Lof Y) _ rfl (.tmp 18) rfl rfl hrg ?_ ?_))
    · intro hl0
      have hY0 : Y = [] := by simpa [Lof] using hl0
      have hdone := hS.done (by
        have := hpm.out
        rw [hY0] at this
        simp [Dof] at this
        exact List.Perm.trans (by simpa [Dof] using this) HPM.out)
      clear hrg hS hl0
      go_wp2_with fail
      go_ret
      exact ⟨rfl, hdone, hbw⟩
    · intro l1 l2 q vq w2 hl hmem hrg2 hg2 hs2 hen
      obtain ⟨a, x, c, hY, hlof, rfl, rfl⟩ := lof_split hl
      have hxX : x ∈ X := hYX.out x (by rw [hY]; simp)
      have hrz := HRZ.out
      have hbw2 : Below w1.heap.size w1 w2 := hbw.grown hg2 hbw.size (fun j hj => by cases hj; omega)
      have hS2 := hS.iter hrg hg2
      have hI2 := HI.out w2 hbw2
      obtain ⟨f1, f2⟩ := hI2.file x hxX
      have hfr := keys_fresh HND.out hpm.out hY
      obtain ⟨hk1, hk2⟩ := HK.out x hxX
      obtain ⟨Av, cv, hv, _, _⟩ := f2.form
      obtain ⟨gv, _, hsv⟩ := f2.shows
      have HFR := Lib.hid hfr
      have HYE := Lib.hid hY
      have hen' : (Instr.entry (.pointer (some ⟨r, 0, none⟩))).run Try.prog w2 = .ok (.tuple #[.string (str8 x.q), x.ptr]) w2 := hen
      have HM := Lib.hid (And.intro hl (And.intro hrg.left_eq hrg2.left_eq))
      have hmW : mb < w2.heap.size := hI2.map.lt
      have hrW : r < w2.heap.size := hrg2.lt
      have hmne : mb ≠ w1.heap.size + 1 := by have := h.map.lt; omega
      have hrne : r ≠ w1.heap.size + 1 := by omega
      rw [← hlof] at hrg2
      have HRG := Lib.hid hrg2
      have HSS := Lib.hid hS2
      have HBW := Lib.hid hbw2
      have HMN := Lib.hid (And.intro hmne hrne)
      have HLT := Lib.hid (And.intro hmW hrW)
      rw [hv] at f1 hsv
      have p0 : w2.drew.cell? ⟨x.p, 0, none⟩ = some (.slice Av x.f.b.length cv) := f1.c0
      have p1 : w2.drew.cell? ⟨x.p, 1, none⟩ = some (.int .i64 x.f.safe) := f1.c1
      have q2 : w2.drew.cell? ⟨w1.heap.size, 2, none⟩ = some (.map (some (w1.heap.size + 1))) := hS2.box.c2
      have HP1 := Lib.hid (fun W (hb : Below w2.heap.size w2 W) => show W.cell? ⟨x.p, 1, none⟩ = some (.int .i64 x.f.safe) from (World.cell?_of_block (w := w2) (hb.block _ f1.lt)).trans f1.c1)
      have HCL := Lib.hid (clone8_any (.slice Av x.f.b.length cv) gv x.f.b w2.drew hsv (by omega))
      have hxp : x.ptr = .pointer (some ⟨x.p, 0, none⟩) := rfl
      rw [hxp] at hen' ⊢
      have hkv : strFam.kv x.q = .string (str8 x.q) := rfl
      rw [hkv]
      have HKQ := Lib.hid (show strFam.ok x.q from (by show x.q.length ≤ _; omega))
      clear hen hxp hkv hrg hS hg2 hs2 hmem hl hlof hrg2 hS2 hI2 f1 f2 hfr hv hsv hbw hbw2 hmne hrne hmW hrW hrz hY
      go_wp2_with fail
      go_region_law (first
        | (go_simp; go_at_call 40
           with_reducible refine HCL.out.mono ?_
           rintro e w4 ⟨vc, rfl, hoc, hb4⟩
           obtain ⟨Ac, cc, rfl, _, _⟩ := hoc.form
           have hb4' : Below w2.heap.size w2 w4 := (Below.refl w2.heap.size w2).drew.trans hb4
           have u1 := HP1.out w4 hb4'
           have hS4 := HSS.out.keep hb4'
           have u2 := hS4.box.c2
           have hbx : Below w4.heap.size w4 (w4.alloc (.cells #[.slice Ac x.f.b.length cc, .int .i64 x.f.safe] 69)) := (Below.refl _ _).alloc (Nat.le_refl _) _
           have u3 := (hS4.keep hbx).box.c2
           obtain ⟨w6, hput, hm6, hg6, hz6⟩ := (hS4.keep hbx).map.store (T := 48) Try.underlying48 HKQ.out (.pointer (some ⟨w4.heap.size, 0, none⟩))
           have hput' : (Instr.mapUpdate 48 (.map (some (w1.heap.size + 1))) (.string (str8 x.q)) (.pointer (some ⟨w4.heap.size, 0, none⟩))).run Try.prog (w4.alloc (.cells #[.slice Ac x.f.b.length cc, .int .i64 x.f.safe] 69)) = .ok () w6 := hput
           have HEND := Lib.hid (And.intro hoc (And.intro hb4' (And.intro hm6 hg6)))
           clear hput))
      all_goals
        obtain ⟨ho, hb, hm, hg⟩ := HEND.out
        have hsz := hb.size
        have hbs := HBW.out.size
        have e1 : ∀ k, k < w2.heap.size → k ≠ w1.heap.size + 1 → w6.heap[k]? = w2.heap[k]? := fun k hk hne => by
          rw [hg.block k (by simp; omega) (fun e => hne (Option.some.inj e)), Below.heap_alloc w4 _ k (by omega), hb.block k hk]
        have hS6 := HSS.out.push (q := x.q) (f := x.f) hbs HFR.out hb ho hm hg
        have hr6 := HRG.out.keep (e1 mb HLT.out.1 HMN.out.1) (e1 r HLT.out.2 HMN.out.2)
        have hb6 : Below w1.heap.size w1 w6 := ((HBW.out.trans (hb.mono hbs)).alloc (by omega) _).grown hg (by simp; omega) (fun j hj => by cases hj; omega)
        have hM := HM.out
        have hP := hpm.out
        have hYE := HYE.out
        have hYO := hYX.out
        clear HEND ho hb hm hg hsz hbs e1 HSS HBW HLT HMN HRG HCL HP1 u1 u2 u3 hS4 hbx hput' hz6 hm6 hg6 p0 p1 q2 hen' hb4 hb4' hoc
        go_wp2_with fail
        go_roundw
        case rel =>
          refine ⟨C ++ [⟨x.q, w4.heap.size, _, x.f⟩], a ++ c, hr6, hS6, Lib.hid ?_, Lib.hid ?_, hb6⟩
          · rw [hYE] at hP
            refine List.Perm.trans ?_ hP
            simp only [Dof, List.map_append, List.map_cons, List.map_nil, List.append_assoc, List.singleton_append]
            exact (List.perm_middle.symm).append_left _
          · intro y hy
            refine hYO y ?_
            rw [hYE]
            rcases List.mem_append.1 hy with hy | hy
            · exact List.mem_append_left _ hy
            · exact List.mem_append_right _ (List.mem_cons_of_mem _ hy)
        case measure =>
          have := hr6.left_eq
          rw [this, hM.2.1, hYE]
          simp [Lof]
end

end Go.Proofs.Ytngjmeohleoglaa
