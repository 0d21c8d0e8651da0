/-
  The contract of disk's Append: what is refused at once; a file that is there.
  Conditions: none but sizes.
-/
import Derived.Test.YtngjmeohleoglaaDiL
import Derived.Test.YtngjmeohleoglaaDiB
import Derived.Test.YtngjmeohleoglaaDiJ
import Derived.Deep.RegionHeld3
namespace Go.Proofs.Ytngjmeohleoglaa
open Go.RowKit Go.Shelf
set_option linter.unusedVariables false
set_option linter.unusedSimpArgs false
set_option maxRecDepth 100000

section
variable {w W w1 : World} {base nb mb n : Nat} {F : Nat → Prop} {st st' : DD} {X Y A B : List PF} {x : PF} {d : Value}
theorem eg49 (caps : Array Value) (w : World) : (callFunc 48 caps).run Try.prog w = .ok (.enter 48 caps) w := enters_of Try.func48 (by kernel_rfl) rfl caps w

/-- Boxes of three arguments. -/
def Bx3 (w W0 : World) (dp : Option Addr) (s t : ByteArray) : Prop := Below w.heap.size w W0 ∧ Bx W0 w.heap.size (.pointer dp) 23 ∧ Bx W0 (w.heap.size + 1) (.string s) 9 ∧ Bx W0 (w.heap.size + 1 + 1) (.string t) 9 ∧ W0.heap.size = w.heap.size + 1 + 1 + 1
theorem Bx3.new (w : World) (dp : Option Addr) (s t : ByteArray) : Bx3 w (((w.alloc (Obj.cells #[.pointer dp] 23)).alloc (Obj.cells #[.string s] 9)).alloc (Obj.cells #[.string t] 9)) dp s t := by
  refine ⟨below_box3K _ _ _ _, ((heap_alloc_old _ _ (by simp; omega)).trans (heap_alloc_old _ _ (by simp))).trans (heap_alloc_new w _), ?_, ?_, by simp⟩
  · rw [← World.size_alloc w (Obj.cells #[.pointer dp] 23)]; exact (heap_alloc_old _ _ (by simp)).trans (heap_alloc_new _ _)
  · rw [show w.heap.size + 1 + 1 = ((w.alloc (Obj.cells #[.pointer dp] 23)).alloc (Obj.cells #[.string s] 9)).heap.size by simp]; exact heap_alloc_new _ _
theorem Bx3.later {w W0 W1 : World} {dp : Option Addr} {s t : ByteArray} (h : Bx3 w W0 dp s t) (hb : Below W0.heap.size W0 W1) : Below w.heap.size w W1 ∧ Bx W1 w.heap.size (.pointer dp) 23 ∧ Bx W1 (w.heap.size + 1) (.string s) 9 ∧ Bx W1 (w.heap.size + 1 + 1) (.string t) 9 :=
  ⟨h.1.trans (hb.mono h.1.size), h.2.1.keep (hb.block _ h.2.1.lt), h.2.2.1.keep (hb.block _ h.2.2.1.lt), h.2.2.2.1.keep (hb.block _ h.2.2.2.1.lt)⟩

theorem append_err (dp : Option Addr) (s t : ByteArray) (E : Nat) (hs : s.size ≤ 140737488355328) (hE : E ≠ 0) (hR : ∀ W', Below w.heap.size w W' → Calls Try.prog 45 #[.pointer dp, .bool (okName (sb s))] W' fun e w' => e = .returned (.int .i64 E) ∧ w' = W') :
    Calls Try.prog 22 #[.pointer dp, .string s, .string t] w fun e w' => e = .returned (.int .i64 E) ∧ Below w.heap.size w w' := by
  have h3 := Bx3.new w dp s t
  generalize hW0 : ((w.alloc (Obj.cells #[.pointer dp] 23)).alloc (Obj.cells #[.string s] 9)).alloc (Obj.cells #[.string t] 9) = W0 at h3
  have HW0 := Lib.hid hW0
  have c1 := h3.2.1.c
  have c2 := h3.2.2.1.c
  have HR := Lib.hid (fun q => hR _ (below_drewN h3.1 q))
  have HN := Lib.hid (fun W => isName_any s W hs)
  have HB := Lib.hid (fun q => below_drewN h3.1 q)
  have t1 : ((E : Int) != 0) = true := by simp; omega
  clear hR h3 hW0 hs hE
  generalize okName (sb s) = N at *
  go_enter Try.func22, Try.ntmps22
  go_upto_region 1 with fail
  rw [HW0.out]
  go_quiet (first
    | (go_at_call 46; with_reducible exact Calls.quiet_of_same (HN.out _))
    | (go_at_call 45; with_reducible exact Calls.quiet_of_same (HR.out _)))
  go_wp2_with fail
  go_ret
  exact ⟨rfl, HB.out _⟩

/-- The first lines of Append: the file's box, and whether it is there. -/
def FoundA (W1 : World) (V : Value) (I : Bool) (f i : Value) (wx : World) : Prop := ∃ fb ib, f = .pointer (some ⟨fb, 0, none⟩) ∧ i = .pointer (some ⟨ib, 0, none⟩) ∧ Below W1.heap.size W1 wx ∧ Bx wx fb V 65 ∧ Bx wx ib (.bool I) 4 ∧ W1.heap.size ≤ fb ∧ W1.heap.size ≤ ib ∧ fb ≠ ib

theorem found1 (W1 : World) (V : Value) (I : Bool) : FoundA W1 V I (.pointer (some ⟨W1.heap.size, 0, none⟩)) (.pointer (some ⟨W1.heap.size + 1, 0, none⟩)) (((W1.alloc (Obj.cells #[V] 65)).alloc (Obj.cells #[.bool I] 4)).drew) :=
  ⟨_, _, rfl, rfl, below_drew1 (below_box2K _ _ _), (heap_alloc_old _ _ (by simp)).trans (heap_alloc_new W1 _), by
    show (((W1.alloc (Obj.cells #[V] 65)).alloc (Obj.cells #[.bool I] 4))).heap[W1.heap.size + 1]? = _
    rw [← World.size_alloc W1 (Obj.cells #[V] 65)]; exact heap_alloc_new _ _, Nat.le_refl _, by omega, by omega⟩
theorem found2 (W1 : World) (V : Value) (I : Bool) : FoundA W1 V I (.pointer (some ⟨W1.heap.size + 1, 0, none⟩)) (.pointer (some ⟨W1.heap.size, 0, none⟩)) (((W1.alloc (Obj.cells #[.bool I] 4)).alloc (Obj.cells #[V] 65)).drew) :=
  ⟨_, _, rfl, rfl, below_drew1 (below_box2K _ _ _), by
    show (((W1.alloc (Obj.cells #[.bool I] 4)).alloc (Obj.cells #[V] 65))).heap[W1.heap.size + 1]? = _
    rw [← World.size_alloc W1 (Obj.cells #[.bool I] 4)]; exact heap_alloc_new _ _, (heap_alloc_old _ _ (by simp)).trans (heap_alloc_new W1 _), by omega, Nat.le_refl _, by omega⟩
/-- What the fourth region reads. -/
def AFacts (w : World) (nb mb : Nat) (q : DName) (V : Value) (I : Bool) (w' : World) : Prop := w'.cell? ⟨w.heap.size, 0, none⟩ = some (.pointer (some ⟨nb, 0, none⟩)) ∧ w'.cell? ⟨w.heap.size + 1, 0, none⟩ = some (.string (str8 q)) ∧ w'.cell? ⟨nb, 2, none⟩ = some (.map (some mb)) ∧
  (Instr.lookup 48 (.map (some mb)) (.string (str8 q)) true).run Try.prog w' = .ok (.tuple #[V, .bool I]) w'
def AppS (W0 : World) (P : World → Prop) (w' : World) : Prop := Below W0.heap.size W0 w' ∧ ∀ w'', Below W0.heap.size W0 w'' → P w''
theorem AppS.mk {W0 w1 w2 : World} {P : World → Prop} (hb : Below W0.heap.size W0 w2) (h : AppS W0 P w1) : AppS W0 P w2 := ⟨hb, h.2⟩

set_option maxHeartbeats 4000000 in
theorem append_here (h : DiskM w base nb st F) (hF : F nb) (hb : base ≤ w.heap.size) (hwf : DWf n st) (q : DName) (hq : q.length ≤ 140737488355328) (t : ByteArray) (ht : t.size ≤ 140737488355328) (hd : st.down = false) (hok : okName q = true) {f : FD} (hf : getA q st.fs = some f) :
    Calls Try.prog 22 #[.pointer (some ⟨nb, 0, none⟩), .string (str8 q), .string t] w (OpSaid w base nb F (appendD st q (sb t))) := by
  have h' := h
  obtain ⟨⟨mb, X, hI, hfoot⟩, hlow⟩ := h'
  unfold OpSaid
  obtain ⟨A, x, B, rfl, rfl, e2, e3⟩ := getA_Lof_some hI.nodup ((hI.get q).trans hf)
  subst e2
  have h3 := Bx3.new w (some ⟨nb, 0, none⟩) (str8 x.q) t
  generalize hW0 : ((w.alloc (Obj.cells #[.pointer (some ⟨nb, 0, none⟩)] 23)).alloc (Obj.cells #[.string (str8 x.q)] 9)).alloc (Obj.cells #[.string t] 9) = W0 at h3
  have HW0 := Lib.hid hW0
  have c1 := h3.2.1.c
  have c2 := h3.2.2.1.c
  have hIk := fun W' (hW' : Below w.heap.size w W') => hI.keep (w' := W') fun k hk => hW'.block k (hI.lt k hk)
  have HR := Lib.hid (fun q => (show Calls Try.prog 45 #[.pointer (some ⟨nb, 0, none⟩), .bool true] (W0.drewN q) fun e w' => e = .returned (.int .i64 0) ∧ w' = W0.drewN q from by
    have := refusal_any (hIk _ (below_drewN h3.1 q)).box true
    rw [hd] at this
    exact this))
  have HN := Lib.hid (fun W => (show Calls Try.prog 46 #[.string (str8 x.q)] W fun e w' => e = .returned (.bool true) ∧ w' = W from by
    have := isName_any (str8 x.q) W (by rw [str8_size]; exact hq)
    rw [sb_str8, hok] at this
    exact this))
  have HK := Lib.hid (fun w' (hb : Below W0.heap.size W0 w') => show AFacts w nb mb x.q (.pointer (some ⟨x.p, 0, none⟩)) true w' from by
    have hl := h3.later hb
    have hI' := hIk w' hl.1
    have := hI'.look hq
    rw [e3] at this
    exact ⟨hl.2.1.c, hl.2.2.1.c, hI'.box.c2, this⟩)
  have H3 := Lib.hid h3
  clear h3 hW0
  go_enter Try.func22, Try.ntmps22
  go_upto_region 1 with fail
  rw [HW0.out]
  go_quiet (first
    | (go_at_call 46; with_reducible exact Calls.quiet_of_same (HN.out _))
    | (go_at_call 45; with_reducible exact Calls.quiet_of_same (HR.out _)))
  go_upto_region 4 with fail
  obtain ⟨W1, hW1⟩ : ∃ W1, W1 = W0.drewN nq := ⟨_, rfl⟩
  rw [← hW1]
  have hb1 : Below W0.heap.size W0 W1 := by rw [hW1]; exact below_drewN (Below.refl _ _) _
  have HK1 := Lib.hid (fun w' (hb : Below W1.heap.size W1 w') => HK.out w' (hb1.trans (hb.mono hb1.size)))
  have HAL := Lib.hid (fun w' (hb : Below W1.heap.size W1 w') o => hb.alloc hb.size o)
  have hbd : Below W1.heap.size W1 W1.drew := below_drew1 (Below.refl _ _)
  have hbr := Below.refl W1.heap.size W1
  have zc : ∀ (u : Value) (ty : TypeId) (o : Obj), ((W1.alloc (Obj.cells #[u] ty)).alloc o).cell? ⟨W1.heap.size, 0, none⟩ = some u := fun u ty o => by
    have h0 : (W1.alloc (Obj.cells #[u] ty)).cell? ⟨W1.heap.size, 0, none⟩ = some u := by rw [cell_of_row _ _ _ _ ty (0, 0) (heap_alloc_new W1 _)]; rfl
    rw [World.cell?_alloc_some _ _ _ (by rw [h0]; rfl)]; exact h0
  have zf : ∀ (u : Value) (ty : TypeId) (o : Obj), ((W1.alloc (Obj.cells #[u] ty)).alloc o).frozen? ⟨W1.heap.size, 0, none⟩ = false := fun u ty o => frozen_of_row _ _ 0 _ ty ((heap_alloc_old _ _ (by simp)).trans (heap_alloc_new W1 (Obj.cells #[u] ty)))
  have HW1 := Lib.hid (And.intro hW1 hb1)
  clear hW1 hb1 HK HR HN
  go_cut [8, 9] from 17 to 25 (fun f i wx => FoundA W1 (.pointer (some ⟨x.p, 0, none⟩)) true f i wx)
  case first =>
    refine wp_region_held_drew (S := AppS W1 (AFacts w nb mb x.q (.pointer (some ⟨x.p, 0, none⟩)) true)) (by kernel_rfl) ⟨hbd, HK1.out⟩ (fun hHeld => ?_)
    refine wpAnyH_take (i := 0) (v := ?_) rfl (by kernel_rfl) (by kernel_rfl) (by kernel_rfl) (fun _ _ _ h => h) (Or.inl ⟨by rfl, ?_⟩) (by assumption) ?_
    rotate_left
    · intro w9 hSw
      obtain ⟨s1, s2, s3, s4⟩ := hSw.2 _ hSw.1
      go_simp
      try with_reducible rfl
    try simp only [Act.put, List.setIfInBounds_toArray, List.set_cons_zero, List.set_cons_succ]
    refine wpAnyH_take (i := 1) (v := ?_) rfl (by kernel_rfl) (by kernel_rfl) (by kernel_rfl) (fun _ _ _ h => h) (Or.inl ⟨by rfl, ?_⟩) (by assumption) ?_
    rotate_left
    · intro w9 hSw
      obtain ⟨s1, s2, s3, s4⟩ := hSw.2 _ hSw.1
      go_simp
      try with_reducible rfl
    try simp only [Act.put, List.setIfInBounds_toArray, List.set_cons_zero, List.set_cons_succ]
    refine wpAnyH_take (i := 2) (v := ?_) rfl (by kernel_rfl) (by kernel_rfl) (by kernel_rfl) (fun _ _ _ h => h) (Or.inl ⟨by rfl, ?_⟩) (by assumption) ?_
    rotate_left
    · intro w9 hSw
      obtain ⟨s1, s2, s3, s4⟩ := hSw.2 _ hSw.1
      go_simp
      try with_reducible rfl
    try simp only [Act.put, List.setIfInBounds_toArray, List.set_cons_zero, List.set_cons_succ]
    refine wpAnyH_take (i := 3) (v := ?_) rfl (by kernel_rfl) (by kernel_rfl) (by kernel_rfl) (fun _ _ _ h => h) (Or.inl ⟨by rfl, ?_⟩) (by assumption) ?_
    rotate_left
    · intro w9 hSw
      obtain ⟨s1, s2, s3, s4⟩ := hSw.2 _ hSw.1
      go_simp
      try with_reducible rfl
    try simp only [Act.put, List.setIfInBounds_toArray, List.set_cons_zero, List.set_cons_succ]
    refine wpAnyH_take (i := 4) (v := ?_) rfl (by kernel_rfl) (by kernel_rfl) (by kernel_rfl) (fun _ _ _ h => h) (Or.inl ⟨by rfl, ?_⟩) (by assumption) ?_
    rotate_left
    · intro w9 hSw
      obtain ⟨s1, s2, s3, s4⟩ := hSw.2 _ hSw.1
      go_simp
      try with_reducible rfl
    try simp only [Act.put, List.setIfInBounds_toArray, List.set_cons_zero, List.set_cons_succ]
    refine wpAnyH_take (i := 5) (v := ?_) rfl (by kernel_rfl) (by kernel_rfl) (by kernel_rfl) (fun _ _ _ h => h) (Or.inl ⟨by rfl, ?_⟩) (by assumption) ?_
    rotate_left
    · intro w9 hSw
      obtain ⟨s1, s2, s3, s4⟩ := hSw.2 _ hSw.1
      go_simp
      try with_reducible rfl
    try simp only [Act.put, List.setIfInBounds_toArray, List.set_cons_zero, List.set_cons_succ]
    refine wpAnyH_take (i := 6) (v := ?_) rfl (by kernel_rfl) (by kernel_rfl) (by kernel_rfl) (fun _ _ _ h => h) (Or.inl ⟨by rfl, ?_⟩) (by assumption) ?_
    rotate_left
    · intro w9 hSw
      obtain ⟨s1, s2, s3, s4⟩ := hSw.2 _ hSw.1
      go_simp
      try with_reducible rfl
    try simp only [Act.put, List.setIfInBounds_toArray, List.set_cons_zero, List.set_cons_succ]
    refine wpAnyH_take (i := 7) (v := ?_) rfl (by kernel_rfl) (by kernel_rfl) (by kernel_rfl) (fun _ _ _ h => h) (Or.inl ⟨by rfl, ?_⟩) (by assumption) ?_
    rotate_left
    · intro w9 hSw
      obtain ⟨s1, s2, s3, s4⟩ := hSw.2 _ hSw.1
      go_simp
      try with_reducible rfl
    try simp only [Act.put, List.setIfInBounds_toArray, List.set_cons_zero, List.set_cons_succ]
    refine wpAnyH_take (i := 8) (v := ?_) rfl (by kernel_rfl) (by kernel_rfl) (by kernel_rfl) (fun _ _ _ h => h) (Or.inl ⟨by rfl, ?_⟩) (by assumption) ?_
    rotate_left
    · intro w9 hSw
      obtain ⟨s1, s2, s3, s4⟩ := hSw.2 _ hSw.1
      go_simp
      try with_reducible rfl
    try simp only [Act.put, List.setIfInBounds_toArray, List.set_cons_zero, List.set_cons_succ]
    refine wpAnyH_ready (rs := [9, 10]) (by kernel_rfl) (by simp) ?_
    refine AllReadyH.cons rfl (fun K hK => ?_) (AllReadyH.cons rfl (fun K hK => ?_) AllReadyH.nil)
    · go_simp
      refine hK.out _ _ (AppS.mk (by repeat (first | exact hbd | exact hbr | refine below_drew1 ?_ | refine below_drewN ?_ _ | refine HAL.out _ ?_ _ | refine Below.setCell ?_ (by simp) _)) hHeld) (fun _ => ?_)
      clear hK K
      try simp only [Act.put, List.setIfInBounds_toArray, List.set_cons_zero, List.set_cons_succ]
      refine wpAnyH_ready (rs := [10]) (by kernel_rfl) (by simp) ?_
      refine AllReadyH.cons rfl (fun K hK => ?_) AllReadyH.nil
      · go_simp
        refine hK.out _ _ (AppS.mk (by repeat (first | exact hbd | exact hbr | refine below_drew1 ?_ | refine below_drewN ?_ _ | refine HAL.out _ ?_ _ | refine Below.setCell ?_ (by simp) _)) hHeld) (fun _ => ?_)
        clear hK K
        try simp only [Act.put, List.setIfInBounds_toArray, List.set_cons_zero, List.set_cons_succ]
        refine wpAnyH_ready (rs := [11]) (by kernel_rfl) (by simp) ?_
        refine AllReadyH.cons rfl (fun K hK => ?_) AllReadyH.nil
        · go_simp
          refine hK.out _ _ (AppS.mk (by repeat (first | exact hbd | exact hbr | refine below_drew1 ?_ | refine below_drewN ?_ _ | refine HAL.out _ ?_ _ | refine Below.setCell ?_ (by simp) _)) hHeld) (fun _ => ?_)
          clear hK K
          try simp only [Act.put, List.setIfInBounds_toArray, List.set_cons_zero, List.set_cons_succ]
          refine wpAnyH_ready (rs := [12]) (by kernel_rfl) (by simp) ?_
          refine AllReadyH.cons rfl (fun K hK => ?_) AllReadyH.nil
          · go_simp
            refine hK.out _ _ (AppS.mk (by repeat (first | exact hbd | exact hbr | refine below_drew1 ?_ | refine below_drewN ?_ _ | refine HAL.out _ ?_ _ | refine Below.setCell ?_ (by simp) _)) hHeld) (fun _ => ?_)
            clear hK K
            try simp only [Act.put, List.setIfInBounds_toArray, List.set_cons_zero, List.set_cons_succ]
            exact wpAnyH_done (by kernel_rfl) (by (try go_wp2_with fail); go_meet; (first | exact found1 W1 _ _ | exact found2 W1 _ _)) _
    · go_simp
      refine hK.out _ _ (AppS.mk (by repeat (first | exact hbd | exact hbr | refine below_drew1 ?_ | refine below_drewN ?_ _ | refine HAL.out _ ?_ _ | refine Below.setCell ?_ (by simp) _)) hHeld) (fun _ => ?_)
      clear hK K
      try simp only [Act.put, List.setIfInBounds_toArray, List.set_cons_zero, List.set_cons_succ]
      refine wpAnyH_ready (rs := [9]) (by kernel_rfl) (by simp) ?_
      refine AllReadyH.cons rfl (fun K hK => ?_) AllReadyH.nil
      · go_simp
        refine hK.out _ _ (AppS.mk (by repeat (first | exact hbd | exact hbr | refine below_drew1 ?_ | refine below_drewN ?_ _ | refine HAL.out _ ?_ _ | refine Below.setCell ?_ (by simp) _)) hHeld) (fun _ => ?_)
        clear hK K
        try simp only [Act.put, List.setIfInBounds_toArray, List.set_cons_zero, List.set_cons_succ]
        refine wpAnyH_ready (rs := [11]) (by kernel_rfl) (by simp) ?_
        refine AllReadyH.cons rfl (fun K hK => ?_) AllReadyH.nil
        · go_simp
          refine hK.out _ _ (AppS.mk (by repeat (first | exact hbd | exact hbr | refine below_drew1 ?_ | refine below_drewN ?_ _ | refine HAL.out _ ?_ _ | refine Below.setCell ?_ (by simp) _)) hHeld) (fun _ => ?_)
          clear hK K
          try simp only [Act.put, List.setIfInBounds_toArray, List.set_cons_zero, List.set_cons_succ]
          refine wpAnyH_ready (rs := [12]) (by kernel_rfl) (by simp) ?_
          refine AllReadyH.cons rfl (fun K hK => ?_) AllReadyH.nil
          · go_simp
            refine hK.out _ _ (AppS.mk (by repeat (first | exact hbd | exact hbr | refine below_drew1 ?_ | refine below_drewN ?_ _ | refine HAL.out _ ?_ _ | refine Below.setCell ?_ (by simp) _)) hHeld) (fun _ => ?_)
            clear hK K
            try simp only [Act.put, List.setIfInBounds_toArray, List.set_cons_zero, List.set_cons_succ]
            exact wpAnyH_done (by kernel_rfl) (by (try go_wp2_with fail); go_meet; (first | exact found1 W1 _ _ | exact found2 W1 _ _)) _
  case rest =>
    obtain ⟨fb, ib, rfl, rfl, hbx, hfb, hib, hf1, hi1, hne⟩ := hcut
    rename World => wx
    have hbW : Below W0.heap.size W0 wx := HW1.out.2.trans (hbx.mono HW1.out.2.size)
    have hl := H3.out.later hbW
    have hIx := hIk wx hl.1
    obtain ⟨Ax, cx, hv, _, _⟩ := (hIx.file x (by simp)).2.form
    obtain ⟨_, hl1, hl2⟩ := fit_of hwf hf
    have i0 := hib.c
    have k1 := hl.2.2.2.c
    have k2 := hfb.c
    have k3 : wx.cell? ⟨x.p, 0, none⟩ = some (.slice Ax x.f.b.length cx) := by rw [← hv]; exact (hIx.file x (by simp)).1.c0
    have k4 := hl.2.1.c
    have k5 := hIx.box.c0
    have k6 := hIx.box.c1
    have hu := hwf.used
    have hu2 := hwf.room
    have hold : oldF st x.q = x.f := by unfold oldF; rw [hf]; rfl
    have hsl := sb_length t
    have HA := Lib.hid (fun W (hW : Below w.heap.size w W) => AtD.same h hb hF hW)
    have e1 : IntKind.i64.wrap (1048576 - (x.f.b.length : Int)) = ((1048576 - x.f.b.length : Nat) : Int) := by rw [i64_id _ (by omega) (by omega)]; omega
    have e2 : IntKind.i64.wrap ((st.room : Int) - (usedL st.fs : Int)) = ((st.room - usedL st.fs : Nat) : Int) := by rw [i64_id _ (by omega) (by omega)]; omega
    have e1' : wrap64 (1048576 - (x.f.b.length : Int)) = ((1048576 - x.f.b.length : Nat) : Int) := by rw [w64_id _ (by omega) (by omega)]; omega
    have e2' : wrap64 ((st.room : Int) - (usedL st.fs : Int)) = ((st.room - usedL st.fs : Nat) : Int) := by rw [w64_id _ (by omega) (by omega)]; omega
    generalize hm1 : 1048576 - x.f.b.length = m1 at *
    generalize hm2 : st.room - usedL st.fs = m2 at *
    have HBx := Lib.hid (fun q => below_drewN hl.1 q)
    by_cases hlong : m1 < t.size
    · have ha : appendD st x.q (sb t) = (st, 3) := by unfold appendD; rw [hd, hok, hold, if_neg (by simp), if_neg (by simp), if_pos (by omega)]
      have HAA := Lib.hid ha
      have tl : decide (m1 < t.size) = true := by simpa using hlong
      clear hl hIx hv hl1 hl2 hu hu2 hold hsl hm1 hm2 hlong ha hbW hbx hfb hib hf1 hi1 hne hI h hIk hlow hfoot hwf hb hf H3 HAL hbd hbr zc zf HW1 HK1 k4 k5 k6 e2 e2'
      go_wp2_with fail
      go_quiet (fail)
      go_wp2_with fail
      go_ret
      rw [HAA.out]
      exact ⟨rfl, HA.out _ (HBx.out _)⟩
    · have tl : decide (m1 < t.size) = false := by simpa using hlong
      by_cases hfull : m2 < t.size
      · have ha : appendD st x.q (sb t) = (st, 6) := by unfold appendD; rw [hd, hok, hold, if_neg (by simp), if_neg (by simp), if_neg (by omega), if_pos (by omega)]
        have HAA := Lib.hid ha
        have tf : decide (m2 < t.size) = true := by simpa using hfull
        clear hl hIx hv hl1 hl2 hu hu2 hold hsl hm1 hm2 hlong hfull ha hbW hbx hfb hib hf1 hi1 hne hI h hIk hlow hfoot hwf hb hf H3 HAL hbd hbr zc zf HW1 HK1
        go_wp2_with fail
        go_quiet (fail)
        go_wp2_with fail
        go_quiet (fail)
        go_wp2_with fail
        go_ret
        rw [HAA.out]
        exact ⟨rfl, HA.out _ (by have := HBx.out 0; exact below_drewN (below_drewN this _) _)⟩
      · have tf : decide (m2 < t.size) = false := by simpa using hfull
        have ha : appendD st x.q (sb t) = opD st true (setS x.q ⟨x.f.b ++ sb t, x.f.safe⟩ st.fs) := by unfold appendD; rw [hd, hok, hold, if_neg (by simp), if_neg (by simp), if_neg (by omega), if_neg (by omega)]
        have HAA := Lib.hid ha
        have HO := Lib.hid (fun W' (hW' : Below wx.heap.size wx W') => by
          have hbw' := hl.1.trans (hW'.mono hl.1.size)
          have hk : ∀ b v ty, Bx wx b v ty → Bx W' b v ty := fun b v ty hb => hb.keep (hW'.block b hb.lt)
          exact operate_any (AtD.same h hb hF hbw') hd hwf.fuse true 48 #[.pointer (some ⟨ib, 0, none⟩), .pointer (some ⟨fb, 0, none⟩), .pointer (some ⟨w.heap.size, 0, none⟩), .pointer (some ⟨w.heap.size + 1, 0, none⟩), .pointer (some ⟨w.heap.size + 1 + 1, 0, none⟩)] (eg49 _) (setS x.q ⟨x.f.b ++ sb t, x.f.safe⟩ st.fs) fun _ =>
            (append1_old (hIk W' hbw') hf t (by omega) (by omega) (by have := hbw'.size; omega) (hk _ _ _ hib) (hk _ _ _ hfb) (hk _ _ _ hl.2.1) (hk _ _ _ hl.2.2.2)).mono fun e w1 ⟨g1, v', g2, g3, g4⟩ => ⟨g1, AtD.made h hb hF hfoot hbw' g2 (g3.mono fun k _ e => .inl (by
              rcases e with e | e | e
              · exact .inl e
              · exact .inr (.inr ⟨x, by simp, .inl e⟩)
              · exact .inr (.inr ⟨x, by simp, .inr e⟩))) fun k hk => by
              rcases hk with rfl | rfl | ⟨y, hy, hk⟩
              · exact .inl (.inl rfl)
              · exact .inl (.inr (.inl rfl))
              · rcases List.mem_append.1 hy with hy | hy
                · exact .inl (.inr (.inr ⟨y, by simp [hy], hk⟩))
                · rcases List.mem_cons.1 hy with rfl | hy
                  · rcases hk with hk | hk
                    · exact .inl (.inr (.inr ⟨x, by simp, .inl hk⟩))
                    · rcases g4 with g4 | ⟨j, g4, g5⟩
                      · exact .inl (.inr (.inr ⟨x, by simp, .inr (g4 ▸ hk)⟩))
                      · rw [g4] at hk
                        cases hk
                        exact .inr (by have := hbw'.size; omega)
                  · exact .inl (.inr (.inr ⟨y, by simp [hy], hk⟩))⟩)
        have HZ := Lib.hid (Below.refl wx.heap.size wx)
        clear hl hIx hv hl1 hl2 hu hu2 hold hsl hm1 hm2 hlong hfull ha hbW hbx hfb hib hf1 hi1 hne hI h hIk hlow hfoot hwf hb hf H3 HAL hbd hbr zc zf HW1 HK1 HBx
        go_wp2_with fail
        go_quiet (fail)
        go_wp2_with fail
        go_quiet (fail)
        go_wp2_with (go_at_call 47; refine (HO.out _ (by first | exact below_drewN (below_drewN HZ.out _) _ | exact below_drewN HZ.out _)).mono ?_; rintro e w2 ⟨rfl, h2⟩)
        go_ret
        rw [HAA.out]
        exact ⟨rfl, h2⟩
end

end Go.Proofs.Ytngjmeohleoglaa
