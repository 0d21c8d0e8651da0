/-
  The contract of disk's Append: a file that is made.
  Conditions: none but sizes.
-/
import Derived.Test.YtngjmeohleoglaaDiR
import Derived.Test.YtngjmeohleoglaaDiK
namespace Go.Proofs.Ytngjmeohleoglaa
open Go.RowKit Go.Shelf
set_option linter.unusedVariables false
set_option linter.unusedSimpArgs false
set_option maxRecDepth 100000

section
variable {w W w1 : World} {base nb mb n : Nat} {F : Nat → Prop} {st st' : DD} {X Y A B : List PF} {x : PF} {d : Value}
set_option maxHeartbeats 4000000 in
theorem append_make (h : DiskM w base nb st F) (hF : F nb) (hb : base ≤ w.heap.size) (hwf : DWf n st) (q : DName) (hq : q.length ≤ 140737488355328) (t : ByteArray) (ht : t.size ≤ 140737488355328) (hd : st.down = false) (hok : okName q = true) (hf : getA q st.fs = none) :
    Calls Try.prog 22 #[.pointer (some ⟨nb, 0, none⟩), .string (str8 q), .string t] w (OpSaid w base nb F (appendD st q (sb t))) := by
  have h' := h
  obtain ⟨⟨mb, X, hI, hfoot⟩, hlow⟩ := h'
  unfold OpSaid
  obtain ⟨e3, hnq⟩ := getA_Lof_none ((hI.get q).trans hf)
  have h3 := Bx3.new w (some ⟨nb, 0, none⟩) (str8 q) t
  generalize hW0 : ((w.alloc (Obj.cells #[.pointer (some ⟨nb, 0, none⟩)] 23)).alloc (Obj.cells #[.string (str8 q)] 9)).alloc (Obj.cells #[.string t] 9) = W0 at h3
  have HW0 := Lib.hid hW0
  have c1 := h3.2.1.c
  have c2 := h3.2.2.1.c
  have hIk := fun W' (hW' : Below w.heap.size w W') => hI.keep (w' := W') fun k hk => hW'.block k (hI.lt k hk)
  have HR := Lib.hid (fun q => (show Calls Try.prog 45 #[.pointer (some ⟨nb, 0, none⟩), .bool true] (W0.drewN q) fun e w' => e = .returned (.int .i64 0) ∧ w' = W0.drewN q from by
    have := refusal_any (hIk _ (below_drewN h3.1 q)).box true
    rw [hd] at this
    exact this))
  have HN := Lib.hid (fun W => (show Calls Try.prog 46 #[.string (str8 q)] W fun e w' => e = .returned (.bool true) ∧ w' = W from by
    have := isName_any (str8 q) W (by rw [str8_size]; exact hq)
    rw [sb_str8, hok] at this
    exact this))
  have HK := Lib.hid (fun w' (hb : Below W0.heap.size W0 w') => show AFacts w nb mb q (.pointer none) false w' from by
    have hl := h3.later hb
    have hI' := hIk w' hl.1
    have := hI'.look hq
    rw [e3] at this
    exact ⟨hl.2.1.c, hl.2.2.1.c, hI'.box.c2, this⟩)
  have H3 := Lib.hid h3
  clear h3 hW0
  go_enter Try.func22, Try.ntmps22
  go_upto_region 1 with fail
  rw [HW0.out]
  go_quiet (first
    | (go_at_call 46; with_reducible exact Calls.quiet_of_same (HN.out _))
    | (go_at_call 45; with_reducible exact Calls.quiet_of_same (HR.out _)))
  go_upto_region 4 with fail
  obtain ⟨W1, hW1⟩ : ∃ W1, W1 = W0.drewN nq := ⟨_, rfl⟩
  rw [← hW1]
  have hb1 : Below W0.heap.size W0 W1 := by rw [hW1]; exact below_drewN (Below.refl _ _) _
  have HK1 := Lib.hid (fun w' (hb : Below W1.heap.size W1 w') => HK.out w' (hb1.trans (hb.mono hb1.size)))
  have HAL := Lib.hid (fun w' (hb : Below W1.heap.size W1 w') o => hb.alloc hb.size o)
  have hbd : Below W1.heap.size W1 W1.drew := below_drew1 (Below.refl _ _)
  have hbr := Below.refl W1.heap.size W1
  have zc : ∀ (u : Value) (ty : TypeId) (o : Obj), ((W1.alloc (Obj.cells #[u] ty)).alloc o).cell? ⟨W1.heap.size, 0, none⟩ = some u := fun u ty o => by
    have h0 : (W1.alloc (Obj.cells #[u] ty)).cell? ⟨W1.heap.size, 0, none⟩ = some u := by rw [cell_of_row _ _ _ _ ty (0, 0) (heap_alloc_new W1 _)]; rfl
    rw [World.cell?_alloc_some _ _ _ (by rw [h0]; rfl)]; exact h0
  have zf : ∀ (u : Value) (ty : TypeId) (o : Obj), ((W1.alloc (Obj.cells #[u] ty)).alloc o).frozen? ⟨W1.heap.size, 0, none⟩ = false := fun u ty o => frozen_of_row _ _ 0 _ ty ((heap_alloc_old _ _ (by simp)).trans (heap_alloc_new W1 (Obj.cells #[u] ty)))
  have HW1 := Lib.hid (And.intro hW1 hb1)
  clear hW1 hb1 HK HR HN
  go_cut [8, 9] from 17 to 25 (fun f i wx => FoundA W1 (.pointer none) false f i wx)
  case first =>
    refine wp_region_held_drew (S := AppS W1 (AFacts w nb mb q (.pointer none) false)) (by kernel_rfl) ⟨hbd, HK1.out⟩ (fun hHeld => ?_)
    refine wpAnyH_take (i := 0) (v := ?_) rfl (by kernel_rfl) (by kernel_rfl) (by kernel_rfl) (fun _ _ _ h => h) (Or.inl ⟨by rfl, ?_⟩) (by assumption) ?_
    rotate_left
    · intro w9 hSw
      obtain ⟨s1, s2, s3, s4⟩ := hSw.2 _ hSw.1
      go_simp
      try with_reducible rfl
    try simp only [Act.put, List.setIfInBounds_toArray, List.set_cons_zero, List.set_cons_succ]
    refine wpAnyH_take (i := 1) (v := ?_) rfl (by kernel_rfl) (by kernel_rfl) (by kernel_rfl) (fun _ _ _ h => h) (Or.inl ⟨by rfl, ?_⟩) (by assumption) ?_
    rotate_left
    · intro w9 hSw
      obtain ⟨s1, s2, s3, s4⟩ := hSw.2 _ hSw.1
      go_simp
      try with_reducible rfl
    try simp only [Act.put, List.setIfInBounds_toArray, List.set_cons_zero, List.set_cons_succ]
    refine wpAnyH_take (i := 2) (v := ?_) rfl (by kernel_rfl) (by kernel_rfl) (by kernel_rfl) (fun _ _ _ h => h) (Or.inl ⟨by rfl, ?_⟩) (by assumption) ?_
    rotate_left
    · intro w9 hSw
      obtain ⟨s1, s2, s3, s4⟩ := hSw.2 _ hSw.1
      go_simp
      try with_reducible rfl
    try simp only [Act.put, List.setIfInBounds_toArray, List.set_cons_zero, List.set_cons_succ]
    refine wpAnyH_take (i := 3) (v := ?_) rfl (by kernel_rfl) (by kernel_rfl) (by kernel_rfl) (fun _ _ _ h => h) (Or.inl ⟨by rfl, ?_⟩) (by assumption) ?_
    rotate_left
    · intro w9 hSw
      obtain ⟨s1, s2, s3, s4⟩ := hSw.2 _ hSw.1
      go_simp
      try with_reducible rfl
    try simp only [Act.put, List.setIfInBounds_toArray, List.set_cons_zero, List.set_cons_succ]
    refine wpAnyH_take (i := 4) (v := ?_) rfl (by kernel_rfl) (by kernel_rfl) (by kernel_rfl) (fun _ _ _ h => h) (Or.inl ⟨by rfl, ?_⟩) (by assumption) ?_
    rotate_left
    · intro w9 hSw
      obtain ⟨s1, s2, s3, s4⟩ := hSw.2 _ hSw.1
      go_simp
      try with_reducible rfl
    try simp only [Act.put, List.setIfInBounds_toArray, List.set_cons_zero, List.set_cons_succ]
    refine wpAnyH_take (i := 5) (v := ?_) rfl (by kernel_rfl) (by kernel_rfl) (by kernel_rfl) (fun _ _ _ h => h) (Or.inl ⟨by rfl, ?_⟩) (by assumption) ?_
    rotate_left
    · intro w9 hSw
      obtain ⟨s1, s2, s3, s4⟩ := hSw.2 _ hSw.1
      go_simp
      try with_reducible rfl
    try simp only [Act.put, List.setIfInBounds_toArray, List.set_cons_zero, List.set_cons_succ]
    refine wpAnyH_take (i := 6) (v := ?_) rfl (by kernel_rfl) (by kernel_rfl) (by kernel_rfl) (fun _ _ _ h => h) (Or.inl ⟨by rfl, ?_⟩) (by assumption) ?_
    rotate_left
    · intro w9 hSw
      obtain ⟨s1, s2, s3, s4⟩ := hSw.2 _ hSw.1
      go_simp
      try with_reducible rfl
    try simp only [Act.put, List.setIfInBounds_toArray, List.set_cons_zero, List.set_cons_succ]
    refine wpAnyH_take (i := 7) (v := ?_) rfl (by kernel_rfl) (by kernel_rfl) (by kernel_rfl) (fun _ _ _ h => h) (Or.inl ⟨by rfl, ?_⟩) (by assumption) ?_
    rotate_left
    · intro w9 hSw
      obtain ⟨s1, s2, s3, s4⟩ := hSw.2 _ hSw.1
      go_simp
      try with_reducible rfl
    try simp only [Act.put, List.setIfInBounds_toArray, List.set_cons_zero, List.set_cons_succ]
    refine wpAnyH_take (i := 8) (v := ?_) rfl (by kernel_rfl) (by kernel_rfl) (by kernel_rfl) (fun _ _ _ h => h) (Or.inl ⟨by rfl, ?_⟩) (by assumption) ?_
    rotate_left
    · intro w9 hSw
      obtain ⟨s1, s2, s3, s4⟩ := hSw.2 _ hSw.1
      go_simp
      try with_reducible rfl
    try simp only [Act.put, List.setIfInBounds_toArray, List.set_cons_zero, List.set_cons_succ]
    refine wpAnyH_ready (rs := [9, 10]) (by kernel_rfl) (by simp) ?_
    refine AllReadyH.cons rfl (fun K hK => ?_) (AllReadyH.cons rfl (fun K hK => ?_) AllReadyH.nil)
    · go_simp
      refine hK.out _ _ (AppS.mk (by repeat (first | exact hbd | exact hbr | refine below_drew1 ?_ | refine below_drewN ?_ _ | refine HAL.out _ ?_ _ | refine Below.setCell ?_ (by simp) _)) hHeld) (fun _ => ?_)
      clear hK K
      try simp only [Act.put, List.setIfInBounds_toArray, List.set_cons_zero, List.set_cons_succ]
      refine wpAnyH_ready (rs := [10]) (by kernel_rfl) (by simp) ?_
      refine AllReadyH.cons rfl (fun K hK => ?_) AllReadyH.nil
      · go_simp
        refine hK.out _ _ (AppS.mk (by repeat (first | exact hbd | exact hbr | refine below_drew1 ?_ | refine below_drewN ?_ _ | refine HAL.out _ ?_ _ | refine Below.setCell ?_ (by simp) _)) hHeld) (fun _ => ?_)
        clear hK K
        try simp only [Act.put, List.setIfInBounds_toArray, List.set_cons_zero, List.set_cons_succ]
        refine wpAnyH_ready (rs := [11]) (by kernel_rfl) (by simp) ?_
        refine AllReadyH.cons rfl (fun K hK => ?_) AllReadyH.nil
        · go_simp
          refine hK.out _ _ (AppS.mk (by repeat (first | exact hbd | exact hbr | refine below_drew1 ?_ | refine below_drewN ?_ _ | refine HAL.out _ ?_ _ | refine Below.setCell ?_ (by simp) _)) hHeld) (fun _ => ?_)
          clear hK K
          try simp only [Act.put, List.setIfInBounds_toArray, List.set_cons_zero, List.set_cons_succ]
          refine wpAnyH_ready (rs := [12]) (by kernel_rfl) (by simp) ?_
          refine AllReadyH.cons rfl (fun K hK => ?_) AllReadyH.nil
          · go_simp
            refine hK.out _ _ (AppS.mk (by repeat (first | exact hbd | exact hbr | refine below_drew1 ?_ | refine below_drewN ?_ _ | refine HAL.out _ ?_ _ | refine Below.setCell ?_ (by simp) _)) hHeld) (fun _ => ?_)
            clear hK K
            try simp only [Act.put, List.setIfInBounds_toArray, List.set_cons_zero, List.set_cons_succ]
            exact wpAnyH_done (by kernel_rfl) (by (try go_wp2_with fail); go_meet; (first | exact found1 W1 _ _ | exact found2 W1 _ _)) _
    · go_simp
      refine hK.out _ _ (AppS.mk (by repeat (first | exact hbd | exact hbr | refine below_drew1 ?_ | refine below_drewN ?_ _ | refine HAL.out _ ?_ _ | refine Below.setCell ?_ (by simp) _)) hHeld) (fun _ => ?_)
      clear hK K
      try simp only [Act.put, List.setIfInBounds_toArray, List.set_cons_zero, List.set_cons_succ]
      refine wpAnyH_ready (rs := [9]) (by kernel_rfl) (by simp) ?_
      refine AllReadyH.cons rfl (fun K hK => ?_) AllReadyH.nil
      · go_simp
        refine hK.out _ _ (AppS.mk (by repeat (first | exact hbd | exact hbr | refine below_drew1 ?_ | refine below_drewN ?_ _ | refine HAL.out _ ?_ _ | refine Below.setCell ?_ (by simp) _)) hHeld) (fun _ => ?_)
        clear hK K
        try simp only [Act.put, List.setIfInBounds_toArray, List.set_cons_zero, List.set_cons_succ]
        refine wpAnyH_ready (rs := [11]) (by kernel_rfl) (by simp) ?_
        refine AllReadyH.cons rfl (fun K hK => ?_) AllReadyH.nil
        · go_simp
          refine hK.out _ _ (AppS.mk (by repeat (first | exact hbd | exact hbr | refine below_drew1 ?_ | refine below_drewN ?_ _ | refine HAL.out _ ?_ _ | refine Below.setCell ?_ (by simp) _)) hHeld) (fun _ => ?_)
          clear hK K
          try simp only [Act.put, List.setIfInBounds_toArray, List.set_cons_zero, List.set_cons_succ]
          refine wpAnyH_ready (rs := [12]) (by kernel_rfl) (by simp) ?_
          refine AllReadyH.cons rfl (fun K hK => ?_) AllReadyH.nil
          · go_simp
            refine hK.out _ _ (AppS.mk (by repeat (first | exact hbd | exact hbr | refine below_drew1 ?_ | refine below_drewN ?_ _ | refine HAL.out _ ?_ _ | refine Below.setCell ?_ (by simp) _)) hHeld) (fun _ => ?_)
            clear hK K
            try simp only [Act.put, List.setIfInBounds_toArray, List.set_cons_zero, List.set_cons_succ]
            exact wpAnyH_done (by kernel_rfl) (by (try go_wp2_with fail); go_meet; (first | exact found1 W1 _ _ | exact found2 W1 _ _)) _
  case rest =>
    obtain ⟨fb, ib, rfl, rfl, hbx, hfb, hib, hf1, hi1, hne⟩ := hcut
    rename World => wx
    have hbW : Below W0.heap.size W0 wx := HW1.out.2.trans (hbx.mono HW1.out.2.size)
    have hl := H3.out.later hbW
    have hIx := hIk wx hl.1
    obtain ⟨W7, hW7⟩ : ∃ W7, W7 = (wx.alloc (Obj.cells #[.slice none 0 0, .int .i64 0] 69)).setCell ⟨fb, 0, none⟩ (.pointer (some ⟨wx.heap.size, 0, none⟩)) := ⟨_, rfl⟩
    have hs7 : W7.heap.size = wx.heap.size + 1 := by rw [hW7]; simp
    have h7 : ∀ k, k < wx.heap.size → k ≠ fb → W7.heap[k]? = wx.heap[k]? := fun k hk hne => by rw [hW7, heap_setCell_other _ _ _ _ hne, heap_alloc_old _ _ hk]
    have hfl := hfb.lt
    have hwlt := hl.1.size
    have hbW7 : Below w.heap.size w W7 := by
      refine ⟨?_, ?_, ?_, by omega, fun k hk => ?_⟩
      · rw [hW7]; exact hl.1.os
      · rw [hW7]; exact hl.1.tape
      · rw [hW7]; exact hl.1.output
      · have h0 := H3.out.1.size
        have h1 := HW1.out.2.size
        rw [h7 k (by omega) (by omega)]
        exact hl.1.block k hk
    have hI7 := hIk W7 hbW7
    have bf7 : Bx W7 fb (.pointer (some ⟨wx.heap.size, 0, none⟩)) 65 := by
      rw [hW7]
      exact heap_setCell_same _ fb 0 _ 65 _ ((heap_alloc_old _ _ hfl).trans hfb)
    have bp7 : BoxI W7 wx.heap.size (.slice none 0 0) 0 := by
      rw [hW7]
      exact (heap_setCell_other _ _ _ _ (by show wx.heap.size ≠ fb; omega)).trans (heap_alloc_new wx _)
    have bi7 : Bx W7 ib (.bool false) 4 := hib.keep (h7 ib hib.lt hne.symm)
    have h3s := H3.out.2.2.2.2
    have hW1s := HW1.out.2.size
    have bd7 := hl.2.1.keep (h7 _ hl.2.1.lt (by omega))
    have bq7 := hl.2.2.1.keep (h7 _ hl.2.2.1.lt (by omega))
    have bt7 := hl.2.2.2.keep (h7 _ hl.2.2.2.lt (by omega))
    have i0 := hib.c
    have f0 := hfb.c
    have f0z : (wx.alloc (Obj.cells #[.slice none 0 0, .int .i64 0] 69)).cell? ⟨fb, 0, none⟩ = some (.pointer none) := by rw [World.cell?_alloc_some _ _ _ (by rw [f0]; rfl)]; exact f0
    have f0f : (wx.alloc (Obj.cells #[.slice none 0 0, .int .i64 0] 69)).frozen? ⟨fb, 0, none⟩ = false := frozen_of_row _ _ 0 _ 65 ((heap_alloc_old _ _ hfl).trans hfb)
    have k1 := bt7.c
    have k2 := bf7.c
    have k3 := bp7.c0
    have k4 := bd7.c
    have k5 := hI7.box.c0
    have k6 := hI7.box.c1
    have hu := hwf.used
    have hu2 := hwf.room
    have hold : oldF st q = ⟨[], 0⟩ := by unfold oldF; rw [hf]; rfl
    have hsl := sb_length t
    have HA := Lib.hid (fun W (hW : Below w.heap.size w W) => AtD.same h hb hF hW)
    have e2 : IntKind.i64.wrap ((st.room : Int) - (usedL st.fs : Int)) = ((st.room - usedL st.fs : Nat) : Int) := by rw [i64_id _ (by omega) (by omega)]; omega
    have e2' : wrap64 ((st.room : Int) - (usedL st.fs : Int)) = ((st.room - usedL st.fs : Nat) : Int) := by rw [w64_id _ (by omega) (by omega)]; omega
    generalize hm2 : st.room - usedL st.fs = m2 at *
    have HBx := Lib.hid (fun q => below_drewN hbW7 q)
    have HW7 := Lib.hid hW7
    by_cases hlong : 1048576 < t.size
    · have ha : appendD st q (sb t) = (st, 3) := by unfold appendD; rw [hd, hok, hold, if_neg (by simp), if_neg (by simp), if_pos (by simp only [List.length_nil]; omega)]
      have HAA := Lib.hid ha
      have tl : decide ((1048576 : Int) < (t.size : Int)) = true := by simp; omega
      clear hl hIx hs7 h7 hfl hwlt hbW7 hI7 bf7 bp7 bi7 h3s hW1s bd7 bq7 bt7 hu hu2 hold hsl hm2 hlong ha hbW hbx hfb hib hf1 hi1 hne hI h hIk hlow hfoot hwf hb hf H3 HAL hbd hbr zc zf HW1 HK1 hW7 hnq e3
      go_wp2_with fail
      rw [← HW7.out]
      go_quiet (fail)
      go_wp2_with fail
      go_ret
      rw [HAA.out]
      exact ⟨rfl, HA.out _ (HBx.out _)⟩
    · have tl : decide ((1048576 : Int) < (t.size : Int)) = false := by simp; omega
      by_cases hfull : m2 < t.size
      · have ha : appendD st q (sb t) = (st, 6) := by unfold appendD; rw [hd, hok, hold, if_neg (by simp), if_neg (by simp), if_neg (by simp only [List.length_nil]; omega), if_pos (by omega)]
        have HAA := Lib.hid ha
        have tf : decide (m2 < t.size) = true := by simpa using hfull
        clear hl hIx hs7 h7 hfl hwlt hbW7 hI7 bf7 bp7 bi7 h3s hW1s bd7 bq7 bt7 hu hu2 hold hsl hm2 hlong hfull ha hbW hbx hfb hib hf1 hi1 hne hI h hIk hlow hfoot hwf hb hf H3 HAL hbd hbr zc zf HW1 HK1 hW7 hnq e3
        go_wp2_with fail
        rw [← HW7.out]
        go_quiet (fail)
        go_wp2_with fail
        go_quiet (fail)
        go_wp2_with fail
        go_ret
        rw [HAA.out]
        exact ⟨rfl, HA.out _ (by have := HBx.out 0; exact below_drewN (below_drewN this _) _)⟩
      · have tf : decide (m2 < t.size) = false := by simpa using hfull
        have ha : appendD st q (sb t) = opD st true (setS q ⟨sb t, 0⟩ st.fs) := by unfold appendD; rw [hd, hok, hold, if_neg (by simp), if_neg (by simp), if_neg (by simp only [List.length_nil]; omega), if_neg (by omega)]; rfl
        have HAA := Lib.hid ha
        have HO := Lib.hid (fun W' (hW' : Below W7.heap.size W7 W') => by
          have hbw' := hbW7.trans (hW'.mono hbW7.size)
          have hk : ∀ b v ty, Bx W7 b v ty → Bx W' b v ty := fun b v ty hb => hb.keep (hW'.block b hb.lt)
          have hbp : BoxI W' wx.heap.size (.slice none 0 0) 0 := (hW'.block _ bp7.lt).trans bp7
          exact operate_any (AtD.same h hb hF hbw') hd hwf.fuse true 48 #[.pointer (some ⟨ib, 0, none⟩), .pointer (some ⟨fb, 0, none⟩), .pointer (some ⟨w.heap.size, 0, none⟩), .pointer (some ⟨w.heap.size + 1, 0, none⟩), .pointer (some ⟨w.heap.size + 1 + 1, 0, none⟩)] (eg49 _) (setS q ⟨sb t, 0⟩ st.fs) fun _ =>
            (append1_new (hIk W' hbw') hnq (fun x hx e => by have := ((hI.file x hx).1).lt; omega) hbp (by omega) hq t ht (by omega) (by have := hbw'.size; omega) (hk _ _ _ bi7) (hk _ _ _ bf7) (hk _ _ _ bd7) (hk _ _ _ bq7) (hk _ _ _ bt7)).mono fun e w1 ⟨g1, v', g2, g3, g4⟩ => ⟨g1, AtD.made h hb hF hfoot hbw' g2 (g3.mono fun k _ e => (by
              rcases e with e | e | e
              · exact .inl (.inl e)
              · exact .inl (.inr (.inl e))
              · exact .inr (by omega))) fun k hk => by
              rcases hk with rfl | rfl | ⟨y, hy, hk⟩
              · exact .inl (.inl rfl)
              · exact .inl (.inr (.inl rfl))
              · rcases List.mem_append.1 hy with hy | hy
                · exact .inl (.inr (.inr ⟨y, hy, hk⟩))
                · rw [List.mem_singleton.1 hy] at hk
                  rcases hk with hk | hk
                  · exact .inr (by simp only at hk; omega)
                  · exact .inr (by have := g4 k hk; have := hbw'.size; omega)⟩)
        have HZ := Lib.hid (Below.refl W7.heap.size W7)
        clear hl hIx hs7 h7 hfl hwlt hbW7 hI7 bf7 bp7 bi7 h3s hW1s bd7 bq7 bt7 hu hu2 hold hsl hm2 hlong hfull ha hbW hbx hfb hib hf1 hi1 hne hI h hIk hlow hfoot hwf hb hf H3 HAL hbd hbr zc zf HW1 HK1 hW7 hnq e3
        go_wp2_with fail
        rw [← HW7.out]
        go_quiet (fail)
        go_wp2_with fail
        go_quiet (fail)
        go_wp2_with (go_at_call 47; refine (HO.out _ (by first | exact below_drewN (below_drewN HZ.out _) _ | exact below_drewN HZ.out _)).mono ?_; rintro e w2 ⟨rfl, h2⟩)
        go_ret
        rw [HAA.out]
        exact ⟨rfl, h2⟩

/-- Append. -/
theorem append_dead (h : DeadD w d) (s t : ByteArray) (hs : s.size ≤ 140737488355328) : Calls Try.prog 22 #[d, .string s, .string t] w fun e w' => e = .returned (.int .i64 1) ∧ Below w.heap.size w w' := by
  obtain ⟨dp, rfl⟩ : ∃ p, d = .pointer p := h.elim (fun e => ⟨_, e⟩) fun ⟨nb, e, _⟩ => ⟨_, e⟩
  exact append_err dp s t 1 hs (by omega) fun W' hW' => refusal_dead (h.kept hW') _
theorem append_any (h : DiskM w base nb st F) (hF : F nb) (hb : base ≤ w.heap.size) (hwf : DWf n st) (q : DName) (hq : q.length ≤ 140737488355328) (t : ByteArray) (ht : t.size ≤ 140737488355328) :
    Calls Try.prog 22 #[.pointer (some ⟨nb, 0, none⟩), .string (str8 q), .string t] w (OpSaid w base nb F (appendD st q (sb t))) := by
  by_cases hd : st.down = false
  · by_cases hok : okName q = true
    · cases hf : getA q st.fs with
      | none => exact append_make h hF hb hwf q hq t ht hd hok hf
      | some f => exact append_here h hF hb hwf q hq t ht hd hok hf
    · have e : appendD st q (sb t) = (st, 2) := by
        unfold appendD
        rw [hd, if_neg (by simp), if_pos (by simpa using hok)]
      unfold OpSaid
      rw [e]
      obtain ⟨⟨mb, X, hI, hfoot⟩, hlow⟩ := h
      refine (append_err (some ⟨nb, 0, none⟩) (str8 q) t 2 (by rw [str8_size]; exact hq) (by omega) fun W' hW' => ?_).mono fun e w1 ⟨h1, h2⟩ => ⟨h1, AtD.same ⟨⟨mb, X, hI, hfoot⟩, hlow⟩ hb hF h2⟩
      have := refusal_any (hI.keep (w' := W') fun k hk => hW'.block k (hI.lt k hk)).box (okName (sb (str8 q)))
      rw [hd, sb_str8, show okName q = false by simpa using hok] at this
      rw [sb_str8, show okName q = false by simpa using hok]
      exact this
  · have hd : st.down = true := by simpa using hd
    have e : appendD st q (sb t) = (st, 100) := by
      unfold appendD
      rw [hd, if_pos rfl]
    unfold OpSaid
    rw [e]
    obtain ⟨⟨mb, X, hI, hfoot⟩, hlow⟩ := h
    refine (append_err (some ⟨nb, 0, none⟩) (str8 q) t 100 (by rw [str8_size]; exact hq) (by omega) fun W' hW' => ?_).mono fun e w1 ⟨h1, h2⟩ => ⟨h1, AtD.same ⟨⟨mb, X, hI, hfoot⟩, hlow⟩ hb hF h2⟩
    have := refusal_any (hI.keep (w' := W') fun k hk => hW'.block k (hI.lt k hk)).box (okName (sb (str8 q)))
    rw [hd] at this
    exact this
end

end Go.Proofs.Ytngjmeohleoglaa
