/-
  Texts, together: WqA, WqB.
  Conditions: none but sizes.
-/
import Derived.Test.YtpmafabphlejeaaGreatWkSZ
import Derived.Test.YtpmafabphlejeaaGreatEnTqZ
import Derived.Test.YtpmafabphlejeaaGreatEnUZ
import Derived.Test.YtpmafabphlejeaaGreatEnCpZ
/-
  The contracts of the document's Same, Small and Copy of works.
  Conditions: none but sizes.
-/
namespace Go.Proofs.YtpmafabphlejeaaGreat
open Go.RowKit
set_option linter.unusedVariables false
set_option linter.unusedSimpArgs false
set_option maxRecDepth 100000

theorem qsmallw_any (x : WorkC) (w : World) (h : ShowsW w x) : Calls Tryz.prog 7 #[workVal x] w fun e w' => ∃ r : Bool, e = .returned (.bool r) ∧ (r = true → x.cs.length ≤ 110 ∧ FewS x.cs ∧ x.rs.length ≤ 110) ∧ Below w.heap.size w w' := by
  have HS := Lib.hid (fun w' (hb : Below w.heap.size w w') => esmall_any ⟨0, ⟨#[]⟩, 0, 0, ⟨#[]⟩, ⟨#[]⟩, x.A1, x.c1, x.cs, x.A2, x.c2, x.rs⟩ w' ⟨(show (0 : Nat) < 256 by decide), (show (0 : Nat) ≤ _ by decide), (show (0 : Nat) < _ by decide), (show (0 : Nat) < _ by decide), (show (0 : Nat) ≤ _ by decide), (show (0 : Nat) ≤ _ by decide), (h.kept hb (Nat.le_refl _)).puts, (h.kept hb (Nat.le_refl _)).takes⟩)
  clear h
  obtain ⟨A1, c1, cs, A2, c2, rs⟩ := x
  unfold workVal SmallESaid entV at *
  simp only [] at *
  have hB0 := below_boxV w (Obj.cells #[.slice A1 cs.length c1, .slice A2 rs.length c2] 25)
  have hX0 := BoxK.new w (.slice A1 cs.length c1) (.slice A2 rs.length c2)
  have k0 := hX0.c0
  have k1 := hX0.c1
  have HC := Lib.hid (show Calls Tryz.prog 32 #[.agg #[.int .u8 0, .string ⟨#[]⟩, .int .u64 0, .int .u32 0, .string ⟨#[]⟩, .string ⟨#[]⟩, .slice A1 cs.length c1, .slice A2 rs.length c2]] (w.alloc (Obj.cells #[.slice A1 cs.length c1, .slice A2 rs.length c2] 25)) (fun e w' => ∃ r : Bool, e = .returned (.bool r) ∧ (r = true → cs.length ≤ 110 ∧ FewS cs ∧ rs.length ≤ 110) ∧ Below (w.alloc (Obj.cells #[.slice A1 cs.length c1, .slice A2 rs.length c2] 25)).heap.size (w.alloc (Obj.cells #[.slice A1 cs.length c1, .slice A2 rs.length c2] 25)) w') from HS.out _ hB0)
  have HB0 := Lib.hid hB0
  clear hB0 hX0 HS
  go_enter Tryz.func7, Tryz.ntmps7
  go_wp2_with fail
  refine HC.out.mono ?_
  rintro e w1 ⟨r, rfl, hr, hb1⟩
  have HR := Lib.hid (And.intro hr (HB0.out.trans (hb1.mono HB0.out.size)))
  clear hr hb1 k0 k1
  go_wp2_with fail
  go_ret
  exact ⟨r, rfl, HR.out.1, HR.out.2⟩

/-- Are two works the same. -/
def sameW (x y : WorkC) : Bool := sameRow samePE x.ps y.ps && sameRow sameRE x.rs y.rs
theorem sameW_iff {x y : WorkC} : sameW x y = true ↔ x.ps = y.ps ∧ x.rs = y.rs := by
  unfold sameW
  rw [Bool.and_eq_true, sameRow_iff _ samePE_iff, sameRow_iff _ sameRE_iff]
set_option maxHeartbeats 2000000 in
theorem qsamew_any (x y : WorkC) (w : World) (hx : ShowsW w x) (hy : ShowsW w y) : Calls Tryz.prog 15 #[workVal x, workVal y] w fun e w' => e = .returned (.bool (sameW x y)) ∧ Below w.heap.size w w' := by
  have HP := Lib.hid (fun w' (hb : Below w.heap.size w w') => qsamePuts_any x.A1 y.A1 x.c1 y.c1 x.cs y.cs w' (hx.kept hb (Nat.le_refl _)).puts (hy.kept hb (Nat.le_refl _)).puts)
  have HR := Lib.hid (fun w' (hb : Below w.heap.size w w') => qsameRefs_any x.A2 y.A2 x.c2 y.c2 x.rs y.rs w' (hx.kept hb (Nat.le_refl _)).takes (hy.kept hb (Nat.le_refl _)).takes)
  have hsw : sameW x y = (sameRow samePE (esOf x.cs) (esOf y.cs) && sameRow sameRE x.rs y.rs) := rfl
  rw [hsw]
  clear hx hy hsw
  obtain ⟨A1, c1, cs, A2, c2, rs⟩ := x
  obtain ⟨B1, b1, ds, B2, b2, ss⟩ := y
  unfold workVal at *
  simp only [] at *
  generalize sameRow samePE (esOf cs) (esOf ds) = p1 at *
  generalize sameRow sameRE rs ss = p2 at *
  obtain ⟨W2, hW2⟩ : ∃ W2, W2 = (w.alloc (Obj.cells #[.slice A1 cs.length c1, .slice A2 rs.length c2] 25)).alloc (Obj.cells #[.slice B1 ds.length b1, .slice B2 ss.length b2] 25) := ⟨_, rfl⟩
  have hb2 : Below w.heap.size w W2 := by rw [hW2]; exact (below_boxV _ _).alloc (by simp) _
  have hA2 : BoxK W2 w.heap.size (.slice A1 cs.length c1) (.slice A2 rs.length c2) := by rw [hW2]; exact (BoxK.new w _ _).kept ((Below.refl _ _).alloc (Nat.le_refl _) _) (Nat.le_refl _)
  have hO2 : BoxK W2 (w.heap.size + 1) (.slice B1 ds.length b1) (.slice B2 ss.length b2) := by
    rw [hW2]
    have := BoxK.new (w.alloc (Obj.cells #[.slice A1 cs.length c1, .slice A2 rs.length c2] 25)) (.slice B1 ds.length b1) (.slice B2 ss.length b2)
    rw [World.size_alloc] at this
    exact this
  have k0 := hA2.c0
  have k1 := hA2.c1
  have m0 := hO2.c0
  have m1 := hO2.c1
  have H2 := Lib.hid (And.intro hb2 (And.intro hA2 hO2))
  have HW2 := Lib.hid hW2.symm
  clear hb2 hA2 hO2 hW2
  cases p1
  case false =>
    go_enter Tryz.func15, Tryz.ntmps15
    go_upto_region 1 with fail
    rw [HW2.out]
    go_wp2_with fail
    refine (HP.out _ H2.out.1).mono ?_
    rintro e w3 ⟨rfl, hb3⟩
    have HB3 := Lib.hid (H2.out.1.trans (hb3.mono H2.out.1.size))
    clear hb3 k0 k1 m0 m1
    go_wp2_with fail
    go_ret
    exact ⟨rfl, HB3.out⟩
  case true =>
    go_enter Tryz.func15, Tryz.ntmps15
    go_upto_region 1 with fail
    rw [HW2.out]
    go_wp2_with fail
    refine (HP.out _ H2.out.1).mono ?_
    rintro e w3 ⟨rfl, hb3⟩
    have HB3 := Lib.hid (H2.out.1.trans (hb3.mono H2.out.1.size))
    have n1 := (H2.out.2.1.kept hb3 (Nat.le_refl _)).c1
    have o1 := (H2.out.2.2.kept hb3 (Nat.le_refl _)).c1
    clear hb3 k0 k1 m0 m1
    go_wp2_with fail
    refine (HR.out _ HB3.out).mono ?_
    rintro e w4 ⟨rfl, hb4⟩
    have HB4 := Lib.hid (HB3.out.trans (hb4.mono HB3.out.size))
    clear hb4 n1 o1
    go_wp2_with fail
    go_ret
    exact ⟨by first | rfl | simp, HB4.out⟩

end Go.Proofs.YtpmafabphlejeaaGreat
/-
  The contract of the document's Copy of works.
  Conditions: at most 110 puts, at most 400 values in each.
-/
namespace Go.Proofs.YtpmafabphlejeaaGreat
open Go.RowKit
set_option linter.unusedVariables false
set_option linter.unusedSimpArgs false
set_option maxRecDepth 100000

def ycut (y : WorkC) : WorkC := ⟨y.A1, y.cs.length, y.cs, y.A2, y.rs.length, y.rs⟩
structure OwnQ (w : World) (base : Nat) (y : WorkC) : Prop where
  own : OwnW w base (ycut y)
  p1 : y.cs.length ≤ y.c1
  p2 : y.c1 ≤ maxLen
  t1 : y.rs.length ≤ y.c2
  t2 : y.c2 ≤ maxLen
theorem ShowsG.widen {α : Type} {C : Code α} {w : World} {d : Nat} {A : Option Addr} {l : List α} {c : Nat} (h : ShowsG C w d (.slice A l.length l.length) l) (h1 : l.length ≤ c) (h2 : c ≤ maxLen) : ShowsG C w d (.slice A l.length c) l := by
  obtain ⟨A', c', e, h3, h4, h5⟩ := h
  injection e with e1 e2 e3
  subst e1
  exact ⟨A, c, rfl, h1, h2, h5⟩
section
variable {w w' : World} {base : Nat} {y : WorkC}
theorem OwnQ.keep (h : OwnQ w base y) (hs : w.heap.size ≤ w'.heap.size) (hk : ∀ k, base ≤ k → k < w.heap.size → w'.heap[k]? = w.heap[k]?) : OwnQ w' base y := ⟨h.own.keep hs hk, h.p1, h.p2, h.t1, h.t2⟩
theorem OwnQ.step (h : OwnQ w base y) (hb : Below w.heap.size w w') : OwnQ w' base y := ⟨h.own.step hb, h.p1, h.p2, h.t1, h.t2⟩
theorem OwnQ.mono (h : OwnQ w base y) {b' : Nat} (hb : b' ≤ base) : OwnQ w b' y := ⟨h.own.mono hb, h.p1, h.p2, h.t1, h.t2⟩
theorem OwnQ.shows (h : OwnQ w base y) (hl : y.cs.length ≤ 1099511627776) (hr : ∀ r ∈ y.rs, RefAt r) (hrl : y.rs.length ≤ 8796093022208) : ShowsW (lowm base w) y := by
  obtain ⟨hp, ht⟩ := h.own.shows hl hr hrl
  obtain ⟨d, hd⟩ := hp.row
  obtain ⟨d2, hd2⟩ := ht.row
  exact ⟨⟨⟨d, ShowsG.widen hd h.p1 h.p2⟩, hp.each, hp.lm⟩, ⟨⟨d2, ShowsG.widen hd2 h.t1 h.t2⟩, ht.each, ht.lm⟩⟩
end
def QCopSaid (ps : List PutE) (rs : List RefE) (w : World) (e : Ending) (w' : World) : Prop := ∃ y : WorkC, e = .returned (workVal y) ∧ y.ps = ps ∧ y.rs = rs ∧ OwnQ w' w.heap.size y ∧ Below w.heap.size w w'

set_option maxHeartbeats 4000000 in
theorem qcopyw_any (x : WorkC) (w : World) (h : ShowsW w x) (hl : x.cs.length ≤ 110) (hr : x.rs.length ≤ 110) (hf : FewS x.cs) :
    Calls Tryz.prog 10 #[workVal x] w (QCopSaid x.ps x.rs w) := by
  have HP := Lib.hid (fun w' (ha : At2 w (.slice x.A1 x.cs.length x.c1) (.slice x.A2 x.rs.length x.c2) w') => copyPutsO_any x.A1 x.c1 x.cs w' (h.puts.kept ha.bel (Nat.le_refl _)) hl hf)
  unfold CopyPOwn at HP
  unfold QCopSaid
  have HT := Lib.hid h.takes
  clear h
  obtain ⟨A1, c1, cs, A2, c2, rs⟩ := x
  unfold workVal WorkC.ps at *
  simp only [] at *
  have hA0 := At2.new w (.slice A1 cs.length c1) (.slice A2 rs.length c2)
  obtain ⟨W2, hW2⟩ : ∃ W2, W2 = (w.alloc (Obj.cells #[.slice A1 cs.length c1, .slice A2 rs.length c2] 25)).alloc (Obj.cells #[.slice none 0 0, .slice none 0 0] 25) := ⟨_, rfl⟩
  rw [← hW2] at hA0
  have k0 := hA0.a.c0
  have HA0 := Lib.hid hA0
  have hs2 : W2.heap.size = w.heap.size + 1 + 1 := by rw [hW2]; simp
  have HS2 := Lib.hid hs2
  have HW2 := Lib.hid hW2.symm
  clear hA0 hW2 hs2
  go_enter Tryz.func10, Tryz.ntmps10
  go_upto_region 1 with fail
  rw [HW2.out]
  go_wp2_with fail
  refine (HP.out _ HA0.out).mono ?_
  rintro e w3 ⟨A3, n3, ds, rfl, hes, hP3, hb3⟩
  have hA3 := HA0.out.step hb3
  obtain ⟨A3', n3', hv3, hn3, hm3⟩ := hP3.own.form
  injection hv3 with e1 e2 e3
  subst e1 e3
  obtain ⟨W4, hW4⟩ : ∃ W4, W4 = w3.alloc (Obj.cells #[.slice A3 ds.length n3, .slice none 0 0] 25) := ⟨_, rfl⟩
  have hb4 : Below w3.heap.size w3 W4 := by rw [hW4]; exact below_boxV w3 _
  have hK4 : BoxK W4 w3.heap.size (.slice A3 ds.length n3) (.slice none 0 0) := by rw [hW4]; exact BoxK.new w3 _ _
  have hs4 : W4.heap.size = w3.heap.size + 1 := by rw [hW4]; simp
  have hA4 := hA3.step hb4
  have hP4 := hP3.step hb4
  obtain ⟨d, hd⟩ := (HT.out.kept hA4.bel (Nat.le_refl _)).row
  have hz3 := HA0.out.z.lt
  have hb3s := hb3.size
  clear k0
  have k1 := hA4.a.c1
  have m0 := hK4.c0
  have m1 := hK4.c1
  have g1 := hK4.fr 1
  have H4 := Lib.hid (And.intro hA4 (And.intro hK4 (And.intro hP4 (And.intro hs4 (And.intro hes (And.intro hn3 hm3))))))
  have HW4 := Lib.hid hW4.symm
  have HZ := Lib.hid (And.intro hz3 hb3s)
  have HP3 := Lib.hid hP3
  have hsz4 : w.heap.size ≤ W4.heap.size := hA4.bel.size
  clear hA3 hb3 hA4 hK4 hP4 hP3 hs4 hes hn3 hm3 hb4 hW4 e2 hz3 hb3s
  go_upto_region 2 with fail
  rw [HW4.out]
  have ho4 := OwnG.nil_ refC 37 W4 W4.heap.size
  go_upto_region 3 with (at_builtin; refine wpList_appendG refC _ rfl (.tmp 9) (.tmp 11) 23 rfl W4.heap.size 37 _ 24 Tryz.underlying23 infoRef rfl (.slice none 0 0) [] rfl ho4 d _ rs rfl hd (by simp; omega) (by simp; omega) (Nat.le_refl _) ?_; intro v6 w6 ho6 hg6; rw [List.nil_append] at ho6; obtain ⟨A6, c6, rfl, hn6, hm6⟩ := ho6.form; have hk6 := (hg6.block _ (H4.out.2.1.lt) (by simp [Value.ownBlock])).trans H4.out.2.1; have q1 := BoxK.c1 hk6; have q2 := BoxK.fr hk6 1)
  obtain ⟨hA4, hK4, hP4, hs4, hes, hn3, hm3⟩ := H4.out
  have hK6 : BoxK w6 w3.heap.size (.slice A3 ds.length n3) (.slice none 0 0) := hk6
  have hb46 : Below W4.heap.size W4 w6 := ⟨hg6.os, hg6.tape, hg6.output, hg6.size, fun k hk => hg6.block k hk (by simp [Value.ownBlock])⟩
  have hA6 := hA4.step hb46
  have hP6 := hP4.step hb46
  obtain ⟨W7, hW7⟩ : ∃ W7, W7 = w6.setCell ⟨w3.heap.size, 1, none⟩ (.slice A6 rs.length c6) := ⟨_, rfl⟩
  have hk7 : ∀ i, i ≠ w3.heap.size → W7.heap[i]? = w6.heap[i]? := fun i hi => by rw [hW7]; exact Below.heap_setCell _ _ _ _ (by show i ≠ w3.heap.size; exact hi)
  have hK7 : BoxK W7 w3.heap.size (.slice A3 ds.length n3) (.slice A6 rs.length c6) := by rw [hW7]; exact hK6.set1 _
  obtain ⟨hz3, hb3s⟩ := HZ.out
  have hs2 := HS2.out
  have hA7 : At2 w (.slice A1 cs.length c1) (.slice A2 rs.length c2) W7 := ⟨(hk7 _ (by omega)).trans hA6.a, (hk7 _ (by omega)).trans hA6.z, by rw [hW7]; exact below_set hA6.bel (by omega) _⟩
  have hs7 : W7.heap.size = w6.heap.size := by rw [hW7]; simp
  have hs46 := hb46.size
  have hG7 : GRow putC 35 PutS (w.heap.size + 1 + 1) (.slice A3 ds.length n3) ds W7 := by
    have h1 : PRow W2.heap.size (.slice A3 ds.length n3) ds w3 := HP3.out
    have g1 : GRow putC 35 PutS W2.heap.size (.slice A3 ds.length n3) ds w3 := ⟨h1.own, h1.sh⟩
    exact (g1.keep PutS_sub (w' := W7) (by omega) (fun k hk hkw => (hk7 k (by omega)).trans ((hb46.block k (by omega)).trans (by rw [← HW4.out]; exact (below_boxV w3 _).block k hkw)))).mono PutS_sub (by omega)
  have hR7 : OwnG refC 37 W7 (w.heap.size + 1 + 1) (.slice A6 rs.length c6) rs := (ho6.keep (w' := W7) (fun k hk => hk7 k (by have := (ho6.block k hk).1; omega))).mono (by omega)
  have t0 := hK7.c0
  have t1 := hK7.c1
  have z0 := hA7.z.c0
  have z1 := hA7.z.c1
  have f0 := hA7.z.fr 0
  have f1 := hA7.z.fr 1
  obtain ⟨hX, hB, hk8⟩ := set2_box hA7.z (.slice A3 ds.length n3) (.slice A6 rs.length c6) (by omega : w.heap.size ≤ w.heap.size + 1) hA7.bel
  have hO : OwnQ ((W7.setCell ⟨w.heap.size + 1, 0, none⟩ (.slice A3 ds.length n3)).setCell ⟨w.heap.size + 1, 1, none⟩ (.slice A6 rs.length c6)) w.heap.size ⟨A3, n3, ds, A6, c6, rs⟩ :=
    ⟨⟨⟨n3, (hG7.keep PutS_sub (by simp) (fun k hk _ => hk8 k (by omega))).mono PutS_sub (by omega)⟩, ⟨c6, (hR7.keep (fun k hk => hk8 k (by have := (hR7.block k hk).1; omega))).mono (by omega)⟩, rfl, rfl⟩, hn3, hm3, hn6, hm6⟩
  have HX := Lib.hid (And.intro hX (And.intro hB (And.intro hO hes)))
  have HW7 := Lib.hid hW7.symm
  clear hA4 hK4 hP4 hs4 hes hn3 hm3 hK6 hb46 hA6 hP6 hW7 hk7 hK7 hz3 hb3s hs2 hA7 hs7 hs46 hG7 hR7 hX hB hk8 hO hg6 ho6 hn6 hm6 hk6 q1 q2 m0 m1 g1 k1 hd hsz4 ho4
  rw [HW7.out]
  go_wp2_with fail
  exact bodyPost_ret (results_cell_row rfl _ _ (w.heap.size + 1) 25 _ (0, 0) _ rfl HX.out.1 Tryz.underlying25 rfl (by kernel_rfl)) rfl ⟨⟨A3, n3, ds, A6, c6, rs⟩, rfl, HX.out.2.2.2, rfl, HX.out.2.2.1, HX.out.2.1⟩

end Go.Proofs.YtpmafabphlejeaaGreat
