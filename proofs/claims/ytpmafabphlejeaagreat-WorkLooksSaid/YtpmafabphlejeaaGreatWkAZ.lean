/-
  Texts, together: WkA, WkB, WkC, WkD.
  Conditions: none but sizes.
-/
import Derived.Test.YtpmafabphlejeaaGreatWkPZ
import Derived.Test.YtpmafabphlejeaaGreatValXZ
/-
  The contracts of the program's copies of lists and values.
  Conditions: at most 1000 values.
-/
namespace Go.Proofs.YtpmafabphlejeaaGreat
open Go.RowKit
set_option linter.unusedVariables false
set_option linter.unusedSimpArgs false
set_option maxRecDepth 100000

theorem cutP_any (A : Option Addr) (n c : Nat) (w : World) (h : n ≤ c) : Calls Tryz.prog 61 #[.slice A n c] w fun e w' => e = .returned (.slice A n n) ∧ w' = w := by
  have h1 : (n : Int) ≤ (c : Int) := by omega
  go_enter Tryz.func61, Tryz.ntmps61
  go_wp2_with fail
  go_ret
  exact ⟨rfl, rfl⟩
theorem cutR_any (A : Option Addr) (n c : Nat) (w : World) (h : n ≤ c) : Calls Tryz.prog 62 #[.slice A n c] w fun e w' => e = .returned (.slice A n n) ∧ w' = w := by
  have h1 : (n : Int) ≤ (c : Int) := by omega
  go_enter Tryz.func62, Tryz.ntmps62
  go_wp2_with fail
  go_ret
  exact ⟨rfl, rfl⟩
theorem cutS_any (A : Option Addr) (n c : Nat) (w : World) (h : n ≤ c) : Calls Tryz.prog 102 #[.slice A n c] w fun e w' => e = .returned (.slice A n n) ∧ w' = w := by
  have h1 : (n : Int) ≤ (c : Int) := by omega
  go_enter Tryz.func102, Tryz.ntmps102
  go_wp2_with fail
  go_ret
  exact ⟨rfl, rfl⟩
theorem cutV_any (A : Option Addr) (n c : Nat) (w : World) (h : n ≤ c) : Calls Tryz.prog 103 #[.slice A n c] w fun e w' => e = .returned (.slice A n n) ∧ w' = w := by
  have h1 : (n : Int) ≤ (c : Int) := by omega
  go_enter Tryz.func103, Tryz.ntmps103
  go_wp2_with fail
  go_ret
  exact ⟨rfl, rfl⟩
theorem selfS_any (s : ByteArray) (w : World) : Calls Tryz.prog 88 #[.string s] w fun e w' => e = .returned (.string s) ∧ w = w' := by
  go_enter Tryz.func88, Tryz.ntmps88
  go_wp2_with fail
  go_ret
  exact ⟨rfl, rfl⟩

set_option maxHeartbeats 2000000 in
theorem eachS_any (A : Option Addr) (c d : Nat) (ks : List ByteArray) (w : World) (h : ShowsG strC w d (.slice A ks.length c) ks) (hl : ks.length ≤ 8796093022208) :
    Calls Tryz.prog 87 #[.slice A ks.length c, .func (.func 88) #[] #[]] w fun e w' => ∃ A' c', e = .returned (.slice A' ks.length ks.length) ∧ OwnG strC 9 w' w.heap.size (.slice A' ks.length c') ks ∧ Below w.heap.size w w' := by
  have HX := Lib.hid (fun s w' => selfS_any s w')
  have HS := Lib.hid h
  clear h
  go_enter Tryz.func87, Tryz.ntmps87
  go_wp2_with fail
  go_loopw [5, 10] (fun lv iv wr => ∃ (j : Nat) (ds : List ByteArray), j ≤ ks.length ∧ iv = .int .i64 j ∧ Hid (OwnG strC 9 wr w.heap.size lv ds) ∧ Hid (ds = ks.take j) ∧ Hid (Below w.heap.size w wr)) (fun _ i _ => ks.length - (intOf i).toNat)
  case atStart => exact ⟨0, [], by omega, rfl, Lib.hid (OwnG.nil_ _ _ _ _), Lib.hid (by simp), Lib.hid (Below.refl _ _)⟩
  case round =>
    rename World => wr
    obtain ⟨j, ds, hj, rfl, ho, hds, hb⟩ := hrel
    obtain ⟨Al, cl, hlv, hlc, _⟩ := ho.out.form
    subst hlv
    have HLN := Lib.hid (show ds.length = j by rw [hds.out, List.length_take]; omega)
    by_cases hlt : j < ks.length
    · obtain ⟨o, rfl, _, hcl⟩ := (HS.out.below' hb.out (Nat.le_refl _)).at_ (by omega)
      have k0 : wr.cell? ⟨d, o + j, none⟩ = some (.string ks[j]) := by simpa [strC] using hcl j hlt 0 (by decide)
      have b1 : (j : Int) < (ks.length : Int) := by omega
      have b3 : IntKind.i64.wrap ((j : Int) + 1) = (j : Int) + 1 := i64_id _ (by omega) (by omega)
      have HT := Lib.hid (show ks.take (j + 1) = ds ++ [ks[j]] by rw [hds.out]; exact List.take_succ_eq_append_getElem hlt)
      generalize ks[j] = s at *
      have hB5 : Below wr.heap.size wr (wr.alloc (Obj.cells #[.string s] 9)) := (Below.refl _ _).alloc (Nat.le_refl _) _
      have hm : ShowsG strC (wr.alloc (Obj.cells #[.string s] 9)) wr.heap.size (.slice (some ⟨wr.heap.size, 0, none⟩) 1 1) [s] := ShowsG.lit (C := strC) [s] (by simp [Code.all, strC]) (by simp [maxLen])
      have ho5 := ho.out.alloc_ (Obj.cells #[.string s] 9)
      have HB5 := Lib.hid hB5
      have hbs := hb.out.size
      clear hcl hB5 hlc
      go_wp2_with (first
        | (go_at_call 88; refine (HX.out s _).mono ?_; rintro e w2 ⟨rfl, rfl⟩)
        | (at_builtin
           refine wpList_appendG strC _ rfl (.tmp 14) (.tmp 18) 28 rfl w.heap.size 9 _ 16 Tryz.underlying28 infoStr rfl _ _ rfl ho5 _ _ _ rfl hm (by have := HLN.out; simp only [List.length_singleton]; omega) (by have := HLN.out; simp only [List.length_singleton]; omega) (by simp; omega) ?_
           intro v6 w6 ho6 hg6))
      have HR : Hid (OwnG strC 9 w6 w.heap.size v6 (ds ++ [s])) := Lib.hid ho6
      have HB6 : Hid (Below w.heap.size w w6) := Lib.hid ((hb.out.trans (HB5.out.mono hbs)).grown hg6 (by simp; omega) (fun i hi => (ho5.block i hi).1))
      go_roundw
      case rel => exact ⟨j + 1, _, by omega, by go_num, HR, Lib.hid HT.out.symm, HB6⟩
      case measure => simp [intOf]; omega
    · have b1 : ¬ (j : Int) < (ks.length : Int) := by omega
      have e : ds = ks := by rw [hds.out]; exact List.take_of_length_le (by omega)
      subst e
      have HC := Lib.hid (fun w' => cutS_any Al ds.length cl w' hlc)
      clear hlc
      go_wp2_with fail
      refine (HC.out _).mono ?_
      rintro e w2 ⟨rfl, rfl⟩
      go_wp2_with fail
      go_ret
      exact ⟨Al, cl, rfl, ho.out, hb.out⟩

end Go.Proofs.YtpmafabphlejeaaGreat
/-
  The contract of the program's copy of a value.
  Conditions: at most 1000 values.
-/
namespace Go.Proofs.YtpmafabphlejeaaGreat
open Go.RowKit
set_option linter.unusedVariables false
set_option linter.unusedSimpArgs false
set_option maxRecDepth 100000

def treeS (l : List Tree) (w : World) (j : Nat) (x : Cell5) : Prop := ∀ hj : j < l.length, ShowsT w (l[j]'hj) x.vs
theorem treeS_sub (l : List Tree) (w w' : World) (j : Nat) (x : Cell5) (h : treeS l w j x) (hs : Sub w w') : treeS l w' j x := fun hj => (h hj).sub hs

set_option maxHeartbeats 4000000 in
theorem eachV_any (l : List Tree) (A : Option Addr) (c : Nat) (w : World) (h : ListT w l A c) (hl : l.length ≤ 1000)
    (hv : ∀ j (hj : j < l.length) vs w', ShowsT w' (l[j]'hj) vs → Calls Tryz.prog 70 #[.agg vs.toArray] w' (CopySaid (l[j]'hj) w')) :
    Calls Tryz.prog 89 #[.slice A l.length c, .func (.func 70) #[] #[]] w fun e w' => ∃ A' c' xs, e = .returned (.slice A' xs.length xs.length) ∧ xs.length = l.length ∧ GRow valC 31 (treeS l) w.heap.size (.slice A' xs.length c') xs w' ∧ Below w.heap.size w w' := by
  have HV := Lib.hid hv
  have HS := Lib.hid h
  have hlc := h.lc
  clear h hv
  go_enter Tryz.func89, Tryz.ntmps89
  go_wp2_with fail
  go_loopw [5, 10] (fun lv iv wr => ∃ (j : Nat) (ds : List Cell5), j ≤ l.length ∧ iv = .int .i64 j ∧ Hid (GRow valC 31 (treeS l) w.heap.size lv ds wr) ∧ Hid (ds.length = j) ∧ Hid (Below w.heap.size w wr)) (fun _ i _ => l.length - (intOf i).toNat)
  case atStart => exact ⟨0, [], by omega, rfl, Lib.hid (GRow.nil _ _ _ _ _), Lib.hid rfl, Lib.hid (Below.refl _ _)⟩
  case round =>
    rename World => wr
    obtain ⟨j, ds, hj, rfl, ho, HLN, hb⟩ := hrel
    obtain ⟨Al, cl, hlv, hlcl, _⟩ := ho.out.own.form
    subst hlv
    by_cases hlt : j < l.length
    · obtain ⟨d, o, v0, v1, v2, v3, v4, hA, hd, hsh, c0, c1, c2, c3, c4⟩ := (HS.out.kept hb.out (Nat.le_refl _)).at_ j hlt
      subst hA
      obtain ⟨⟨k, n, ss, a3, n3, q3, a4, n4, q4⟩, hx⟩ := hsh.cell5
      simp only [Cell5.vs, List.cons.injEq, and_true] at hx
      obtain ⟨rfl, rfl, rfl, rfl, rfl⟩ := hx
      have hbs := hb.out.size
      have b1 : (j : Int) < (l.length : Int) := by omega
      have b3 : IntKind.i64.wrap ((j : Int) + 1) = (j : Int) + 1 := i64_id _ (by omega) (by omega)
      have hB1 := below_boxV wr (Obj.cells #[.int .u8 k, .int .u64 n, .string ss, .slice a3 n3 q3, .slice a4 n4 q4] 31)
      have hX1 := BoxV.new (v0 := .int .u8 k) (v1 := .int .u64 n) (v2 := .string ss) (v3 := .slice a3 n3 q3) (v4 := .slice a4 n4 q4) wr
      have HC := Lib.hid (HV.out j hlt [.int .u8 k, .int .u64 n, .string ss, .slice a3 n3 q3, .slice a4 n4 q4] _ (hsh.kept hB1 (Nat.le_refl _)))
      have hz1 : (wr.alloc (Obj.cells #[.int .u8 k, .int .u64 n, .string ss, .slice a3 n3 q3, .slice a4 n4 q4] 31)).heap.size = wr.heap.size + 1 := by simp
      have g0 := hX1.c0
      have g1 := hX1.c1
      have g2 := hX1.c2
      have g3 := hX1.c3
      have g4 := hX1.c4
      have HZ := Lib.hid (And.intro hB1 hz1)
      clear hB1 hX1 hz1 hsh hlcl
      go_wp2_with fail
      refine HC.out.mono ?_
      rintro e w2 ⟨vs, rfl, hsh2, hb2⟩
      obtain ⟨⟨k', n', ss', a3', n3', q3', a4', n4', q4'⟩, hx⟩ := hsh2.cell5
      subst hx
      obtain ⟨hB1, hz1⟩ := HZ.out
      have hb12 : Below wr.heap.size wr w2 := hB1.trans (hb2.mono (by rw [hz1]; omega))
      have hP2 : treeS l (lowm wr.heap.size w2) ds.length ⟨k', n', ss', a3', n3', q3', a4', n4', q4'⟩ := fun hj2 => by
        have e : (l[ds.length]'hj2) = l[j] := by congr 1
        rw [e]
        exact hsh2.sub (low_anti (by rw [hz1]; omega))
      have hb5 := below_boxV w2 (Obj.cells #[.int .u8 k', .int .u64 n', .string ss', .slice a3' n3' q3', .slice a4' n4' q4'] 31)
      have hm : ShowsG valC (w2.alloc (Obj.cells #[.int .u8 k', .int .u64 n', .string ss', .slice a3' n3' q3', .slice a4' n4' q4'] 31)) w2.heap.size (.slice (some ⟨w2.heap.size, 0, none⟩) 1 1) [(⟨k', n', ss', a3', n3', q3', a4', n4', q4'⟩ : Cell5)] := ShowsG.lit (C := valC) [⟨k', n', ss', a3', n3', q3', a4', n4', q4'⟩] (by simp [Code.all, valC, Cell5.vs]) (by simp [maxLen])
      have ho5 := ((ho.out.step (treeS_sub l) hb12).step (treeS_sub l) hb5).own
      have hz5 := hb5.size
      have hz12 := hb12.size
      have HR := Lib.hid (And.intro hP2 (And.intro hb12 hb5))
      unfold Cell5.vs
      clear g0 g1 g2 g3 g4 c0 c1 c2 c3 c4 hsh2 hb2 hP2 hb12 hb5 hB1 hz1
      go_wp2_with (at_builtin
                   refine wpList_appendW valC _ rfl (.tmp 14) (.tmp 18) 29 rfl w.heap.size 31 _ 80 Tryz.underlying29 infoVal rfl _ _ rfl ho5 _ _ _ rfl hm (by simp) (by have := HLN.out; simp only [List.length_singleton]; omega) (by have := HLN.out; simp only [List.length_singleton]; omega) (by omega) ?_
                   intro v6 w6 ho6 hg6 hv6)
      obtain ⟨hP2, hb12, hb5⟩ := HR.out
      have hP6 := Lib.hid (ho.out.push (treeS_sub l) hbs hb12 hP2 hb5 ho6 hg6 hv6)
      have hbw6 : Hid (Below w.heap.size w w6) := Lib.hid (((hb.out.trans (hb12.mono hbs)).trans (hb5.mono (by omega))).grown hg6 (by omega) (fun i hi => (ho5.block i hi).1))
      go_roundw
      case rel => exact ⟨j + 1, _, by omega, by go_num, hP6, Lib.hid (by rw [List.length_append, List.length_singleton, HLN.out]), hbw6⟩
      case measure => simp [intOf]; omega
    · have b1 : ¬ (j : Int) < (l.length : Int) := by omega
      have HE := Lib.hid (show ds.length = l.length by rw [HLN.out]; omega)
      have HC := Lib.hid (fun w' => cutV_any Al ds.length cl w' hlcl)
      clear hlcl
      go_wp2_with fail
      refine (HC.out _).mono ?_
      rintro e w2 ⟨rfl, rfl⟩
      go_wp2_with fail
      go_ret
      exact ⟨Al, cl, ds, rfl, HE.out, ho.out, hb.out⟩

def setV5 (w : World) (b : Nat) (a0 a1 a2 a3 a4 : Value) : World := ((((w.setCell ⟨b, 0, none⟩ a0).setCell ⟨b, 1, none⟩ a1).setCell ⟨b, 2, none⟩ a2).setCell ⟨b, 3, none⟩ a3).setCell ⟨b, 4, none⟩ a4
theorem setV5_eq (w : World) (b : Nat) (a0 a1 a2 a3 a4 : Value) : setV5 w b a0 a1 a2 a3 a4 = setN w b 0 [a0, a1, a2, a3, a4] := rfl
theorem setV5_box {w : World} {b : Nat} {o0 o1 o2 o3 o4 : Value} (h : BoxV w b o0 o1 o2 o3 o4) (a0 a1 a2 a3 a4 : Value) : BoxV (setV5 w b a0 a1 a2 a3 a4) b a0 a1 a2 a3 a4 := by
  have r1 := heap_setCell_same _ b 0 _ 31 a0 h
  have r2 := heap_setCell_same _ b 1 _ 31 a1 r1
  have r3 := heap_setCell_same _ b 2 _ 31 a2 r2
  have r4 := heap_setCell_same _ b 3 _ 31 a3 r3
  exact heap_setCell_same _ b 4 _ 31 a4 r4
theorem listT_cut {w : World} {base : Nat} {A : Option Addr} {c : Nat} {xs : List Cell5} {l : List Tree} (h : GRow valC 31 (treeS l) base (.slice A xs.length c) xs w) (he : xs.length = l.length) {B : Nat} (hB : B ≤ base) (hm : l.length ≤ 1000) : ListT (lowm B w) l A xs.length := by
  refine ⟨by omega, by omega, by simp only [maxLen]; omega, fun j hj => ?_⟩
  have hj' : j < xs.length := by omega
  obtain ⟨g, _, hs⟩ := (h.own.low hB).shows
  obtain ⟨o, hA, hd, hc⟩ := hs.at_ (by omega)
  have key := fun q hq => hc j hj' q hq
  have e : ∀ q, o + (j * valC.sz + q) = o + j * 5 + q := fun q => (Nat.add_assoc o (j * 5) q).symm
  have hsh := h.low (treeS_sub l) hB j hj' hj
  exact ⟨g, o, _, _, _, _, _, hA, hd, hsh, by have := key 0 (by decide); rw [e] at this; exact this, by have := key 1 (by decide); rw [e] at this; exact this, by have := key 2 (by decide); rw [e] at this; exact this, by have := key 3 (by decide); rw [e] at this; exact this, by have := key 4 (by decide); rw [e] at this; exact this⟩

set_option maxHeartbeats 8000000 in
theorem copiedV_any (N : Nat) : ∀ (t : Tree) (vs : List Value) (w : World), cntT t = N → ShowsT w t vs → cntT t ≤ 1000 →
    Calls Tryz.prog 70 #[.agg vs.toArray] w (CopySaid t w) := by
  induction N using Nat.strongRecOn with
  | ind N ih =>
  intro t vs w hN h hc
  have IH := Lib.hid (fun j (hj : j < t.l.length) vs w' (hs : ShowsT w' (t.l[j]'hj) vs) => ih _ (by rw [← hN]; exact cnt_child t j hj) _ vs w' rfl hs (by have := cnt_child t j hj; omega))
  unfold CopySaid
  obtain ⟨kv, A, c, d0, d1, cs, rfl, hk, hn, hks, hkl, hkz, hsz, hln, hlc, hcm, _⟩ := h.open
  obtain ⟨A3, c3, rfl⟩ := str_form hks
  have hl1000 : t.l.length ≤ 1000 := by
    have h1 := cntT_eq t
    have h2 : ∀ l : List Tree, l.length ≤ cntL l := by
      intro l
      induction l with
      | nil => simp
      | cons a r ihr =>
        have : cntL (a :: r) = cntT a + cntL r := rfl
        have := cntT_eq a
        simp
        omega
    have := h2 t.l
    omega
  have HLT := Lib.hid h.list
  obtain ⟨W2, hW2⟩ : ∃ W2, W2 = (w.alloc (Obj.cells #[.int .u8 t.k, .int .u64 t.n, .string t.s, .slice A3 t.ks.length c3, .slice A t.l.length c] 31)).alloc (Obj.cells #[.int .u8 0, .int .u64 0, .string ⟨#[]⟩, .slice none 0 0, .slice none 0 0] 31) := ⟨_, rfl⟩
  have hb2 : Below w.heap.size w W2 := by rw [hW2]; exact (below_boxV _ _).alloc (by simp) _
  have hs2 : W2.heap.size = w.heap.size + 1 + 1 := by rw [hW2]; simp
  have hA2 : BoxV W2 w.heap.size (.int .u8 t.k) (.int .u64 t.n) (.string t.s) (.slice A3 t.ks.length c3) (.slice A t.l.length c) := by
    rw [hW2]; exact (BoxV.new w).kept ((Below.refl _ _).alloc (Nat.le_refl _) _) (Nat.le_refl _)
  have hZ2 : BoxV W2 (w.heap.size + 1) (.int .u8 0) (.int .u64 0) (.string ⟨#[]⟩) (.slice none 0 0) (.slice none 0 0) := by
    rw [hW2]
    have := BoxV.new (v0 := .int .u8 0) (v1 := .int .u64 0) (v2 := .string ⟨#[]⟩) (v3 := .slice none 0 0) (v4 := .slice none 0 0) (w.alloc (Obj.cells #[.int .u8 t.k, .int .u64 t.n, .string t.s, .slice A3 t.ks.length c3, .slice A t.l.length c] 31))
    rw [World.size_alloc] at this
    exact this
  have x3 := hA2.c3
  have HK := Lib.hid (eachS_any A3 c3 d0 t.ks W2 (hks.below' hb2 (Nat.le_refl _)) hkl)
  have HF := Lib.hid (And.intro hk (And.intro hn (And.intro hkl (And.intro hkz hsz))))
  have H2 := Lib.hid (And.intro hb2 (And.intro hs2 (And.intro hA2 hZ2)))
  have HW2 := Lib.hid hW2.symm
  clear ih h hN hc hks hkl hkz hsz hln hlc hcm hk hn hb2 hs2 hA2 hZ2 hW2
  go_enter Tryz.func70, Tryz.ntmps70
  go_upto_region 1 with fail
  rw [HW2.out]
  go_wp2_with fail
  refine HK.out.mono ?_
  rintro e w3 ⟨A', c', rfl, ho3, hb3⟩
  obtain ⟨hb2, hs2, hA2, hZ2⟩ := H2.out
  have hA3 := hA2.kept hb3 (Nat.le_refl _)
  have hZ3 := hZ2.kept hb3 (Nat.le_refl _)
  have y3 := hA3.c3
  have f3 := hA3.fr 3
  have hsz3 := hb3.size
  obtain ⟨W4, hW4⟩ : ∃ W4, W4 = w3.setCell ⟨w.heap.size, 3, none⟩ (.slice A' t.ks.length t.ks.length) := ⟨_, rfl⟩
  have hA4 : BoxV W4 w.heap.size (.int .u8 t.k) (.int .u64 t.n) (.string t.s) (.slice A' t.ks.length t.ks.length) (.slice A t.l.length c) := by rw [hW4]; exact heap_setCell_same w3 w.heap.size 3 _ 31 _ hA3
  have hk4 : ∀ i, i ≠ w.heap.size → W4.heap[i]? = w3.heap[i]? := fun i hi => by rw [hW4]; exact Below.heap_setCell _ _ _ _ (by show i ≠ w.heap.size; exact hi)
  have hZ4 : BoxV W4 (w.heap.size + 1) (.int .u8 0) (.int .u64 0) (.string ⟨#[]⟩) (.slice none 0 0) (.slice none 0 0) := (hk4 _ (by omega)).trans hZ3
  have hb4 : Below w.heap.size w W4 := by rw [hW4]; exact below_set (hb2.trans (hb3.mono (by omega))) (Nat.le_refl w.heap.size) _
  have hsz4 : W4.heap.size = w3.heap.size := by rw [hW4]; simp
  have HKS := Lib.hid (ho3.keep (w' := W4) fun g hg => hk4 g (by have := (ho3.block g hg).1; omega))
  have HV := Lib.hid (eachV_any t.l A c W4 (HLT.out.kept hb4 (Nat.le_refl _)) hl1000 (fun j hj vs w' hs => IH.out j hj vs w' hs))
  have HW4 := Lib.hid hW4.symm
  have H4 := Lib.hid (And.intro hA4 (And.intro hZ4 (And.intro hb4 (And.intro hsz4 hsz3))))
  have x4 := hA4.c4
  clear hA2 hZ2 hA3 hZ3 hb2 hb3 ho3 hk4 hZ4 hb4 hA4 x3 hW4 hsz4 hsz3
  go_upto_region 2 with fail
  rw [HW4.out]
  clear y3 f3
  go_wp2_with fail
  refine HV.out.mono ?_
  rintro e w5 ⟨A5, c5, xs, rfl, hxs, hG5, hb5⟩
  obtain ⟨hA4, hZ4, hb4, hsz4, hsz3⟩ := H4.out
  have HXS := Lib.hid hxs
  clear hxs
  have hA5 := hA4.kept hb5 (Nat.le_refl _)
  have hZ5 := hZ4.kept hb5 (Nat.le_refl _)
  have y4 := hA5.c4
  have f4 := hA5.fr 4
  have hsz5 := hb5.size
  obtain ⟨W6, hW6⟩ : ∃ W6, W6 = w5.setCell ⟨w.heap.size, 4, none⟩ (.slice A5 xs.length xs.length) := ⟨_, rfl⟩
  have hA6 : BoxV W6 w.heap.size (.int .u8 t.k) (.int .u64 t.n) (.string t.s) (.slice A' t.ks.length t.ks.length) (.slice A5 xs.length xs.length) := by rw [hW6]; exact heap_setCell_same w5 w.heap.size 4 _ 31 _ hA5
  have hk6 : ∀ i, i ≠ w.heap.size → W6.heap[i]? = w5.heap[i]? := fun i hi => by rw [hW6]; exact Below.heap_setCell _ _ _ _ (by show i ≠ w.heap.size; exact hi)
  have hZ6 : BoxV W6 (w.heap.size + 1) (.int .u8 0) (.int .u64 0) (.string ⟨#[]⟩) (.slice none 0 0) (.slice none 0 0) := (hk6 _ (by omega)).trans hZ5
  have hsz6 : W6.heap.size = w5.heap.size := by rw [hW6]; simp
  have hb6 : Below w.heap.size w W6 := by rw [hW6]; exact below_set (hb4.trans (hb5.mono hb4.size)) (Nat.le_refl w.heap.size) _
  have HKS6 := Lib.hid (HKS.out.keep (w' := W6) fun g hg => (hk6 g (by have := (HKS.out.block g hg).1; omega)).trans (hb5.block g (HKS.out.block g hg).2))
  have HG6 := Lib.hid (hG5.keep (w' := W6) (treeS_sub t.l) (by omega) fun k hk _ => hk6 k (by omega))
  have HW6 := Lib.hid hW6.symm
  have H6 := Lib.hid (And.intro hA6 (And.intro hZ6 (And.intro hb6 hsz6)))
  have z0 := hA6.c0
  have z1 := hA6.c1
  have z2 := hA6.c2
  have z3 := hA6.c3
  have z4 := hA6.c4
  have q0 := hZ6.c0
  have q1 := hZ6.c1
  have q2 := hZ6.c2
  have q3 := hZ6.c3
  have q4 := hZ6.c4
  have r0 := hZ6.fr 0
  have r1 := hZ6.fr 1
  have r2 := hZ6.fr 2
  have r3 := hZ6.fr 3
  have r4 := hZ6.fr 4
  clear hA4 hZ4 hA5 hZ5 hb4 hb5 hk6 hZ6 hb6 hA6 x4 hW6 hsz4 hsz5 hsz3 hG5 hsz6 hs2
  have h7 : BoxV W6 (w.heap.size + 1) (.int .u8 0) (.int .u64 0) (.string ⟨#[]⟩) (.slice none 0 0) (.slice none 0 0) := H6.out.2.1
  have h8 := setV5_box h7 (.int .u8 t.k) (.int .u64 t.n) (.string t.s) (.slice A' t.ks.length t.ks.length) (.slice A5 xs.length xs.length)
  have h8b : Below w.heap.size w (setV5 W6 (w.heap.size + 1) (.int .u8 t.k) (.int .u64 t.n) (.string t.s) (.slice A' t.ks.length t.ks.length) (.slice A5 xs.length xs.length)) := by
    rw [setV5_eq]; exact setN_below (by omega) _ 0 _ _ H6.out.2.2.1
  have h8s : ShowsT (lowm w.heap.size (setV5 W6 (w.heap.size + 1) (.int .u8 t.k) (.int .u64 t.n) (.string t.s) (.slice A' t.ks.length t.ks.length) (.slice A5 xs.length xs.length))) t [.int .u8 t.k, .int .u64 t.n, .string t.s, .slice A' t.ks.length t.ks.length, .slice A5 xs.length xs.length] := by
    have hW2s := H2.out.2.1
    have hlt2 : w.heap.size + 1 + 1 ≤ W4.heap.size := by have := H4.out.2.2.2.1; have := H4.out.2.2.2.2; omega
    rw [setV5_eq]
    obtain ⟨gk, _, hks⟩ := (HKS6.out.low (B := w.heap.size + 1 + 1) (by omega)).shows
    have hLT := listT_cut HG6.out HXS.out (B := w.heap.size + 1 + 1) (by omega) hl1000
    have hks2 := hks.head' (k := t.ks.length) (c' := t.ks.length) (Nat.le_refl _) (Nat.le_refl _) hks.lens.2.1
    rw [List.take_length] at hks2
    have hm := ShowsT.make (k := t.k) (n := t.n) (s := t.s) HF.out.1 HF.out.2.1 hks2 HF.out.2.2.1 HF.out.2.2.2.1 HF.out.2.2.2.2 hLT
    have hm2 := (hm.sub (setN_sub (Nat.lt_succ_self (w.heap.size + 1)) [.int .u8 t.k, .int .u64 t.n, .string t.s, .slice A' t.ks.length t.ks.length, .slice A5 xs.length xs.length] 0 W6)).sub (low_anti (show w.heap.size ≤ w.heap.size + 1 + 1 by omega))
    rw [HXS.out] at hm2 ⊢
    cases t
    exact hm2
  unfold setV5 at h8 h8b h8s
  have H8 := Lib.hid (And.intro h8 (And.intro h8b h8s))
  clear h7 h8 h8b h8s
  go_upto_region 3 with fail
  rw [HW6.out]
  clear y4 f4
  go_wp2_with fail
  exact bodyPost_ret (results_cell_row rfl _ _ (w.heap.size + 1) 31 _ (0, 0) _ rfl H8.out.1 Tryz.underlying31 rfl (by kernel_rfl)) rfl ⟨[.int .u8 t.k, .int .u64 t.n, .string t.s, .slice A' t.ks.length t.ks.length, .slice A5 xs.length xs.length], rfl, H8.out.2.2, H8.out.2.1⟩

end Go.Proofs.YtpmafabphlejeaaGreat
/-
  The contracts of the program's copies of puts, of names, of works.
  Conditions: at most 1000 values in each put.
-/
namespace Go.Proofs.YtpmafabphlejeaaGreat
open Go.RowKit
set_option linter.unusedVariables false
set_option linter.unusedSimpArgs false
set_option maxRecDepth 100000

theorem selfR_any (r : RefE) (w : World) : Calls Tryz.prog 72 #[refV r] w fun e w' => e = .returned (refV r) ∧ Below w.heap.size w w' := by
  obtain ⟨q, i⟩ := r
  unfold refV
  have hB : Below w.heap.size w ((w.alloc (Obj.cells #[.string q, .int .u64 i] 37)).alloc (Obj.cells #[.string q, .int .u64 i] 37)) := ((Below.refl _ _).alloc (Nat.le_refl _) _).alloc (by simp) _
  have hX : BoxR2 ((w.alloc (Obj.cells #[.string q, .int .u64 i] 37)).alloc (Obj.cells #[.string q, .int .u64 i] 37)) (w.heap.size + 1) ⟨q, i⟩ := by
    have := BoxR2.new (w.alloc (Obj.cells #[.string q, .int .u64 i] 37)) ⟨q, i⟩
    rw [World.size_alloc] at this
    exact this
  have HX := Lib.hid (And.intro hX hB)
  clear hX hB
  go_enter Tryz.func72, Tryz.ntmps72
  go_wp2_with fail
  exact bodyPost_ret (results_cell_row rfl _ _ (w.heap.size + 1) 37 _ (0, 0) _ rfl HX.out.1 Tryz.underlying37 rfl (by kernel_rfl)) rfl ⟨rfl, HX.out.2⟩

set_option maxHeartbeats 2000000 in
theorem eachR_any (A : Option Addr) (c : Nat) (rs : List RefE) (w : World) (h : RowR w A c rs) (hl : rs.length ≤ 1000000) :
    Calls Tryz.prog 71 #[.slice A rs.length c, .func (.func 72) #[] #[]] w fun e w' => ∃ A' c', e = .returned (.slice A' rs.length rs.length) ∧ OwnG refC 37 w' w.heap.size (.slice A' rs.length c') rs ∧ Below w.heap.size w w' := by
  have HX := Lib.hid (fun r w' => selfR_any r w')
  unfold refV at HX
  have HS := Lib.hid h
  clear h
  go_enter Tryz.func71, Tryz.ntmps71
  go_wp2_with fail
  go_loopw [5, 10] (fun lv iv wr => ∃ (j : Nat) (ds : List RefE), j ≤ rs.length ∧ iv = .int .i64 j ∧ Hid (OwnG refC 37 wr w.heap.size lv ds) ∧ Hid (ds = rs.take j) ∧ Hid (Below w.heap.size w wr)) (fun _ i _ => rs.length - (intOf i).toNat)
  case atStart => exact ⟨0, [], by omega, rfl, Lib.hid (OwnG.nil_ _ _ _ _), Lib.hid (by simp), Lib.hid (Below.refl _ _)⟩
  case round =>
    rename World => wr
    obtain ⟨j, ds, hj, rfl, ho, hds, hb⟩ := hrel
    obtain ⟨Al, cl, hlv, hlc, _⟩ := ho.out.form
    subst hlv
    have HLN := Lib.hid (show ds.length = j by rw [hds.out, List.length_take]; omega)
    by_cases hlt : j < rs.length
    · obtain ⟨d, o, rfl, hd, c0, c1⟩ := (HS.out.kept hb.out (Nat.le_refl _)).at_ j hlt
      have b1 : (j : Int) < (rs.length : Int) := by omega
      have b3 : IntKind.i64.wrap ((j : Int) + 1) = (j : Int) + 1 := i64_id _ (by omega) (by omega)
      have HT := Lib.hid (show rs.take (j + 1) = ds ++ [rs[j]] by rw [hds.out]; exact List.take_succ_eq_append_getElem hlt)
      generalize rs[j] = r at *
      have hB1 := below_boxV wr (Obj.cells #[.string r.q, .int .u64 r.id] 37)
      have hX1 := BoxR2.new wr r
      have g0 := hX1.c0
      have g1 := hX1.c1
      have hz1 : (wr.alloc (Obj.cells #[.string r.q, .int .u64 r.id] 37)).heap.size = wr.heap.size + 1 := by simp
      have HZ := Lib.hid (And.intro hB1 hz1)
      have hbs := hb.out.size
      clear hlc hB1 hX1 hz1 hd
      go_wp2_with fail
      refine (HX.out r _).mono ?_
      rintro e w2 ⟨rfl, hb2⟩
      obtain ⟨hB1, hz1⟩ := HZ.out
      have hb12 : Below wr.heap.size wr w2 := hB1.trans (hb2.mono (by rw [hz1]; omega))
      have hb5 := below_boxV w2 (Obj.cells #[.string r.q, .int .u64 r.id] 37)
      have hm : ShowsG refC (w2.alloc (Obj.cells #[.string r.q, .int .u64 r.id] 37)) w2.heap.size (.slice (some ⟨w2.heap.size, 0, none⟩) 1 1) [r] := ShowsG.lit (C := refC) [r] (by simp [Code.all, refC, RefE.vs]) (by simp [maxLen])
      have ho5 := (ho.out.below hb12 (Nat.le_refl _)).below hb5 (Nat.le_refl _)
      have hz5 := hb5.size
      have hz12 := hb12.size
      have HR := Lib.hid (And.intro hb12 hb5)
      clear g0 g1 c0 c1 hb2 hb12 hb5 hB1 hz1
      go_wp2_with (at_builtin
                   refine wpList_appendG refC _ rfl (.tmp 14) (.tmp 18) 23 rfl w.heap.size 37 _ 24 Tryz.underlying23 infoRef rfl _ _ rfl ho5 _ _ _ rfl hm (by have := HLN.out; simp only [List.length_singleton]; omega) (by have := HLN.out; simp only [List.length_singleton]; omega) (by omega) ?_
                   intro v6 w6 ho6 hg6)
      obtain ⟨hb12, hb5⟩ := HR.out
      have HO6 := Lib.hid ho6
      have hbw6 : Hid (Below w.heap.size w w6) := Lib.hid (((hb.out.trans (hb12.mono hbs)).trans (hb5.mono (by omega))).grown hg6 (by omega) (fun i hi => (ho5.block i hi).1))
      go_roundw
      case rel => exact ⟨j + 1, _, by omega, by go_num, HO6, Lib.hid HT.out.symm, hbw6⟩
      case measure => simp [intOf]; omega
    · have b1 : ¬ (j : Int) < (rs.length : Int) := by omega
      have e : ds = rs := by rw [hds.out]; exact List.take_of_length_le (by omega)
      subst e
      have HC := Lib.hid (fun w' => cutR_any Al ds.length cl w' hlc)
      clear hlc
      go_wp2_with fail
      refine (HC.out _).mono ?_
      rintro e w2 ⟨rfl, rfl⟩
      go_wp2_with fail
      go_ret
      exact ⟨Al, cl, rfl, ho.out, hb.out⟩

/-! ### puts -/
def zPutC : PutC := ⟨⟨⟨#[]⟩, 0, zPr, ⟨#[]⟩⟩, ⟨0, 0, ⟨#[]⟩, none, 0, 0, none, 0, 0⟩⟩
def setA5 (w : World) (b : Nat) (x0 x1 x2 x3 x4 : Value) : World := ((((w.setCell ⟨b, 6, none⟩ x0).setCell ⟨b, 7, none⟩ x1).setCell ⟨b, 8, none⟩ x2).setCell ⟨b, 9, none⟩ x3).setCell ⟨b, 10, none⟩ x4
theorem setA5_eq (w : World) (b : Nat) (x0 x1 x2 x3 x4 : Value) : setA5 w b x0 x1 x2 x3 x4 = setN w b 6 [x0, x1, x2, x3, x4] := rfl
theorem setA5_box {w : World} {b : Nat} {c : PutC} (h : BoxT w b c) (y : Cell5) : BoxT (setA5 w b (.int .u8 y.k) (.int .u64 y.n) (.string y.s) (.slice y.a3 y.n3 y.c3) (.slice y.a4 y.n4 y.c4)) b ⟨c.e, y⟩ := by
  rw [setA5_eq]
  have h9 := setN_row [.int .u8 y.k, .int .u64 y.n, .string y.s, .slice y.a3 y.n3 y.c3, .slice y.a4 y.n4 y.c4] 6 w _ h
  simp only [List.foldl_cons, List.foldl_nil, List.setIfInBounds_toArray, List.set_cons_zero, List.set_cons_succ, Nat.reduceAdd] at h9
  exact h9
def setP12 (w : World) (b : Nat) (x0 x1 x2 x3 x4 x5 x6 x7 x8 x9 xa xb : Value) : World := (((((((((((w.setCell ⟨b, 0, none⟩ x0).setCell ⟨b, 1, none⟩ x1).setCell ⟨b, 2, none⟩ x2).setCell ⟨b, 3, none⟩ x3).setCell ⟨b, 4, none⟩ x4).setCell ⟨b, 5, none⟩ x5).setCell ⟨b, 6, none⟩ x6).setCell ⟨b, 7, none⟩ x7).setCell ⟨b, 8, none⟩ x8).setCell ⟨b, 9, none⟩ x9).setCell ⟨b, 10, none⟩ xa).setCell ⟨b, 11, none⟩ xb
theorem setP12_eq (w : World) (b : Nat) (x0 x1 x2 x3 x4 x5 x6 x7 x8 x9 xa xb : Value) : setP12 w b x0 x1 x2 x3 x4 x5 x6 x7 x8 x9 xa xb = setN w b 0 [x0, x1, x2, x3, x4, x5, x6, x7, x8, x9, xa, xb] := rfl
theorem setP12_box {w : World} {b : Nat} {z : PutC} (h : BoxT w b z) (c : PutC) : BoxT (setP12 w b (.string c.e.q) (.int .u64 c.e.id) (.string c.e.p.key) (.bool c.e.p.dur) (.bool c.e.p.red) (.string c.e.p.id) (.int .u8 c.x.k) (.int .u64 c.x.n) (.string c.x.s) (.slice c.x.a3 c.x.n3 c.x.c3) (.slice c.x.a4 c.x.n4 c.x.c4) (.string c.e.body)) b c := by
  rw [setP12_eq]
  have h9 := setN_row [.string c.e.q, .int .u64 c.e.id, .string c.e.p.key, .bool c.e.p.dur, .bool c.e.p.red, .string c.e.p.id, .int .u8 c.x.k, .int .u64 c.x.n, .string c.x.s, .slice c.x.a3 c.x.n3 c.x.c3, .slice c.x.a4 c.x.n4 c.x.c4, .string c.e.body] 0 w _ h
  simp only [List.foldl_cons, List.foldl_nil, List.setIfInBounds_toArray, List.set_cons_zero, List.set_cons_succ, Nat.reduceAdd] at h9
  exact h9
def CopP1Said (c : PutC) (w : World) (e : Ending) (w' : World) : Prop := ∃ y : Cell5, e = .returned (putV ⟨c.e, y⟩) ∧ PutAt (lowm w.heap.size w') ⟨c.e, y⟩ ∧ Below w.heap.size w w'
theorem zPut_new (w : World) : BoxT (w.alloc (Obj.cells #[.string ⟨#[]⟩, .int .u64 0, .string ⟨#[]⟩, .bool false, .bool false, .string ⟨#[]⟩, .int .u8 0, .int .u64 0, .string ⟨#[]⟩, .slice none 0 0, .slice none 0 0, .string ⟨#[]⟩] 35)) w.heap.size zPutC := heap_alloc_new w _

set_option maxHeartbeats 4000000 in
theorem copP1_any (c : PutC) (w : World) (h : PutAt w c) (hc : cntT c.e.p.app ≤ 1000) : Calls Tryz.prog 69 #[putV c] w (CopP1Said c w) := by
  obtain ⟨⟨q, id, ⟨key, dur, red, pid, app⟩, body⟩, ⟨k, n, ss, a3, n3, c3, a4, n4, c4⟩⟩ := c
  have HIN := Lib.hid (And.intro h.q (And.intro h.id (And.intro (And.intro h.pr.key h.pr.id) h.body)))
  have happ := h.pr.app
  unfold CopP1Said putV
  simp only [] at HIN happ hc ⊢
  obtain ⟨W2, hW2⟩ : ∃ W2, W2 = (w.alloc (Obj.cells #[.string q, .int .u64 id, .string key, .bool dur, .bool red, .string pid, .int .u8 k, .int .u64 n, .string ss, .slice a3 n3 c3, .slice a4 n4 c4, .string body] 35)).alloc (Obj.cells #[.string ⟨#[]⟩, .int .u64 0, .string ⟨#[]⟩, .bool false, .bool false, .string ⟨#[]⟩, .int .u8 0, .int .u64 0, .string ⟨#[]⟩, .slice none 0 0, .slice none 0 0, .string ⟨#[]⟩] 35) := ⟨_, rfl⟩
  have hb2 : Below w.heap.size w W2 := by rw [hW2]; exact (below_boxV _ _).alloc (by simp) _
  have hs2 : W2.heap.size = w.heap.size + 1 + 1 := by rw [hW2]; simp
  have hA2 : BoxT W2 w.heap.size ⟨⟨q, id, ⟨key, dur, red, pid, app⟩, body⟩, ⟨k, n, ss, a3, n3, c3, a4, n4, c4⟩⟩ := by
    rw [hW2]; exact (BoxT.new w).kept ((Below.refl _ _).alloc (Nat.le_refl _) _) (Nat.le_refl _)
  have hZ2 : BoxT W2 (w.heap.size + 1) zPutC := by
    rw [hW2]
    have := zPut_new (w.alloc (Obj.cells #[.string q, .int .u64 id, .string key, .bool dur, .bool red, .string pid, .int .u8 k, .int .u64 n, .string ss, .slice a3 n3 c3, .slice a4 n4 c4, .string body] 35))
    rw [World.size_alloc] at this
    exact this
  have HV := Lib.hid (copiedV_any _ app [.int .u8 k, .int .u64 n, .string ss, .slice a3 n3 c3, .slice a4 n4 c4] W2 rfl (happ.kept hb2 (Nat.le_refl _)) hc)
  obtain ⟨_, g6, g7, g8, g9, g10, _⟩ := hA2.cells
  simp only [] at g6 g7 g8 g9 g10
  have H2 := Lib.hid (And.intro hb2 (And.intro hs2 (And.intro hA2 hZ2)))
  have HW2 := Lib.hid hW2.symm
  clear h happ hc hb2 hs2 hA2 hZ2 hW2
  go_enter Tryz.func69, Tryz.ntmps69
  go_upto_region 1 with fail
  rw [HW2.out]
  go_wp2_with fail
  refine HV.out.mono ?_
  rintro e w3 ⟨vs, rfl, hsh3, hb3⟩
  obtain ⟨⟨k', n', ss', a3', n3', q3', a4', n4', q4'⟩, hx⟩ := hsh3.cell5
  subst hx
  unfold Cell5.vs
  obtain ⟨hb2, hs2, hA2, hZ2⟩ := H2.out
  have hA3 := hA2.kept hb3 (Nat.le_refl _)
  have hZ3 := hZ2.kept hb3 (Nat.le_refl _)
  have hsz3 := hb3.size
  obtain ⟨⟨m0, m1, m2, m3, m4, m5⟩, m6, m7, m8, m9, m10, m11⟩ := hA3.cells
  simp only [] at m0 m1 m2 m3 m4 m5 m6 m7 m8 m9 m10 m11
  have f6 := hA3.fr 6
  have f7 := hA3.fr 7
  have f8 := hA3.fr 8
  have f9 := hA3.fr 9
  have f10 := hA3.fr 10
  obtain ⟨W4, hW4⟩ : ∃ W4, W4 = setA5 w3 w.heap.size (.int .u8 k') (.int .u64 n') (.string ss') (.slice a3' n3' q3') (.slice a4' n4' q4') := ⟨_, rfl⟩
  have hA4 : BoxT W4 w.heap.size ⟨⟨q, id, ⟨key, dur, red, pid, app⟩, body⟩, ⟨k', n', ss', a3', n3', q3', a4', n4', q4'⟩⟩ := by rw [hW4]; exact setA5_box hA3 ⟨k', n', ss', a3', n3', q3', a4', n4', q4'⟩
  have hZ4 : BoxT W4 (w.heap.size + 1) zPutC := by
    unfold BoxT
    rw [hW4, setA5_eq, setN_other (by omega) _ 6 _]
    exact hZ3
  have hb4 : Below w.heap.size w W4 := by rw [hW4, setA5_eq]; exact setN_below (Nat.le_refl _) _ 6 _ _ (hb2.trans (hb3.mono (by omega)))
  have hsh4 : ShowsT (lowm (w.heap.size + 1 + 1) W4) app [.int .u8 k', .int .u64 n', .string ss', .slice a3' n3' q3', .slice a4' n4' q4'] := by
    rw [hs2] at hsh3
    rw [hW4, setA5_eq]
    exact hsh3.sub (setN_sub (by omega) _ 6 _)
  have h8 := setP12_box hZ4 ⟨⟨q, id, ⟨key, dur, red, pid, app⟩, body⟩, ⟨k', n', ss', a3', n3', q3', a4', n4', q4'⟩⟩
  have h8b : Below w.heap.size w (setP12 W4 (w.heap.size + 1) (.string q) (.int .u64 id) (.string key) (.bool dur) (.bool red) (.string pid) (.int .u8 k') (.int .u64 n') (.string ss') (.slice a3' n3' q3') (.slice a4' n4' q4') (.string body)) := by
    rw [setP12_eq]; exact setN_below (by omega) _ 0 _ _ hb4
  have h8s : PutAt (lowm w.heap.size (setP12 W4 (w.heap.size + 1) (.string q) (.int .u64 id) (.string key) (.bool dur) (.bool red) (.string pid) (.int .u8 k') (.int .u64 n') (.string ss') (.slice a3' n3' q3') (.slice a4' n4' q4') (.string body))) ⟨⟨q, id, ⟨key, dur, red, pid, app⟩, body⟩, ⟨k', n', ss', a3', n3', q3', a4', n4', q4'⟩⟩ := by
    rw [setP12_eq]
    exact ⟨HIN.out.1, HIN.out.2.1, ⟨HIN.out.2.2.1.1, HIN.out.2.2.1.2, (hsh4.sub (setN_sub (Nat.lt_succ_self (w.heap.size + 1)) _ 0 W4)).sub (low_anti (by omega))⟩, HIN.out.2.2.2⟩
  simp only [] at h8
  unfold setP12 at h8 h8b h8s
  have H8 := Lib.hid (And.intro h8 (And.intro h8b h8s))
  obtain ⟨⟨r0, r1, r2, r3, r4, r5⟩, r6, r7, r8, r9, r10, r11⟩ := hA4.cells
  simp only [] at r0 r1 r2 r3 r4 r5 r6 r7 r8 r9 r10 r11
  obtain ⟨⟨z0, z1, z2, z3, z4, z5⟩, z6, z7, z8, z9, z10, z11⟩ := hZ4.cells
  simp only [zPutC, zPr, prZ] at z0 z1 z2 z3 z4 z5 z6 z7 z8 z9 z10 z11
  have fz := hZ4.fr
  have e0 := fz 0
  have e1 := fz 1
  have e2 := fz 2
  have e3 := fz 3
  have e4 := fz 4
  have e5 := fz 5
  have e6 := fz 6
  have e7 := fz 7
  have e8 := fz 8
  have e9 := fz 9
  have e10 := fz 10
  have e11 := fz 11
  unfold setA5 at hW4
  have HW4 := Lib.hid hW4.symm
  clear hb2 hs2 hA2 hZ2 hA3 hZ3 hsz3 hA4 hZ4 hb4 hsh4 h8 h8b h8s hb3 hsh3 fz hW4 g6 g7 g8 g9 g10
  go_upto_region 2 with fail
  rw [HW4.out]
  clear m0 m1 m2 m3 m4 m5 m6 m7 m8 m9 m10 m11 f6 f7 f8 f9 f10
  go_wp2_with fail
  exact bodyPost_ret (results_cell_row rfl _ _ (w.heap.size + 1) 35 _ (0, 0) _ rfl H8.out.1 Tryz.underlying35 rfl (by kernel_rfl)) rfl ⟨⟨k', n', ss', a3', n3', q3', a4', n4', q4'⟩, rfl, H8.out.2.2, H8.out.2.1⟩

def PutS (w : World) (j : Nat) (c : PutC) : Prop := PutAt w c
theorem PutS_sub (w w' : World) (j : Nat) (c : PutC) (h : PutS w j c) (hs : Sub w w') : PutS w' j c := PutAt.sub h hs
def EachPSaid (cs : List PutC) (w : World) (e : Ending) (w' : World) : Prop := ∃ A' c' ds, e = .returned (.slice A' ds.length ds.length) ∧ esOf ds = esOf cs ∧ GRow putC 35 PutS w.heap.size (.slice A' ds.length c') ds w' ∧ Below w.heap.size w w'

end Go.Proofs.YtpmafabphlejeaaGreat
/-
  The contracts of the program's copies of lists of puts and of works.
  Conditions: at most 400 values in each put.
-/
namespace Go.Proofs.YtpmafabphlejeaaGreat
open Go.RowKit
set_option linter.unusedVariables false
set_option linter.unusedSimpArgs false
set_option maxRecDepth 100000

set_option maxHeartbeats 8000000 in
theorem eachP_any (A : Option Addr) (n0 : Nat) (cs : List PutC) (w : World) (h : RowP w A n0 cs) (hl : cs.length ≤ 1000000) (hf : FewS cs) :
    Calls Tryz.prog 68 #[.slice A cs.length n0, .func (.func 69) #[] #[]] w (EachPSaid cs w) := by
  have HC := Lib.hid (fun j (hj : j < cs.length) w' (hb : PutAt w' cs[j]) => copP1_any cs[j] w' hb (Nat.le_trans (hf j hj) (by decide)))
  unfold CopP1Said putV at HC
  unfold EachPSaid
  have HE := Lib.hid (fun j (hj : j < cs.length) => h.each j hj)
  go_enter Tryz.func68, Tryz.ntmps68
  go_wp2_with fail
  go_loopw [5, 10] (fun lv iv wr => ∃ (j : Nat) (ds : List PutC), j ≤ cs.length ∧ iv = .int .i64 j ∧ Hid (GRow putC 35 PutS w.heap.size lv ds wr) ∧ Hid (esOf ds = (esOf cs).take j) ∧ Hid (Below w.heap.size w wr)) (fun _ i _ => cs.length - (intOf i).toNat)
  case atStart => exact ⟨0, [], by omega, rfl, Lib.hid (GRow.nil _ _ _ _ _), Lib.hid (by simp [esOf]), Lib.hid (Below.refl _ _)⟩
  case round =>
    rename World => x
    obtain ⟨j, ds, hj, rfl, ho, hes, hb⟩ := hrel
    obtain ⟨Al, cl, hlv, hlc, _⟩ := ho.out.own.form
    subst hlv
    have HDL := Lib.hid (show ds.length = j by rw [← esOf_len, hes.out, List.length_take, esOf_len]; omega)
    by_cases hlt : j < cs.length
    · obtain ⟨d, o, rfl, hd, ⟨e0, e1, e2, e3, e4, e5⟩, e6, e7, e8, e9, e10, e11⟩ := (h.kept hb.out (Nat.le_refl _)).at_ j hlt
      have hj1 : (j : Int) < (cs.length : Int) := by omega
      have b3 : IntKind.i64.wrap ((j : Int) + 1) = (j : Int) + 1 := i64_id _ (by omega) (by omega)
      have hbs := hb.out.size
      have hB1 := below_boxV x (Obj.cells #[.string cs[j].e.q, .int .u64 cs[j].e.id, .string cs[j].e.p.key, .bool cs[j].e.p.dur, .bool cs[j].e.p.red, .string cs[j].e.p.id, .int .u8 cs[j].x.k, .int .u64 cs[j].x.n, .string cs[j].x.s, .slice cs[j].x.a3 cs[j].x.n3 cs[j].x.c3, .slice cs[j].x.a4 cs[j].x.n4 cs[j].x.c4, .string cs[j].e.body] 35)
      have hX1 := BoxT.new (c := cs[j]) x
      have hb1 := hb.out.trans (hB1.mono hbs)
      have HCC := Lib.hid (HC.out j hlt _ ((HE.out j hlt).kept hb1 (Nat.le_refl _)))
      have HT := Lib.hid (show (esOf cs).take (j + 1) = esOf ds ++ [cs[j].e] by rw [List.take_succ_eq_append_getElem (by rw [esOf_len]; exact hlt), esOf_get, hes.out])
      obtain ⟨⟨g0, g1, g2, g3, g4, g5⟩, g6, g7, g8, g9, g10, g11⟩ := hX1.cells
      have hz1 : (x.alloc (Obj.cells #[.string cs[j].e.q, .int .u64 cs[j].e.id, .string cs[j].e.p.key, .bool cs[j].e.p.dur, .bool cs[j].e.p.red, .string cs[j].e.p.id, .int .u8 cs[j].x.k, .int .u64 cs[j].x.n, .string cs[j].x.s, .slice cs[j].x.a3 cs[j].x.n3 cs[j].x.c3, .slice cs[j].x.a4 cs[j].x.n4 cs[j].x.c4, .string cs[j].e.body] 35)).heap.size = x.heap.size + 1 := by simp
      have HZ := Lib.hid (And.intro hB1 hz1)
      clear hB1 hX1 hz1 hb1 hlc
      go_wp2_with fail
      refine HCC.out.mono ?_
      rintro e w2 ⟨⟨k, n, ss, a3, n3, c3, a4, n4, c4⟩, rfl, hp2, hb2⟩
      obtain ⟨hB1, hz1⟩ := HZ.out
      have hb12 : Below x.heap.size x w2 := hB1.trans (hb2.mono (by rw [hz1]; omega))
      have hP2 : PutS (lowm x.heap.size w2) ds.length ⟨cs[j].e, ⟨k, n, ss, a3, n3, c3, a4, n4, c4⟩⟩ := hp2.sub (low_anti (by rw [hz1]; omega))
      have hb5 := below_boxV w2 (Obj.cells #[.string cs[j].e.q, .int .u64 cs[j].e.id, .string cs[j].e.p.key, .bool cs[j].e.p.dur, .bool cs[j].e.p.red, .string cs[j].e.p.id, .int .u8 k, .int .u64 n, .string ss, .slice a3 n3 c3, .slice a4 n4 c4, .string cs[j].e.body] 35)
      have hm : ShowsG putC (w2.alloc (Obj.cells #[.string cs[j].e.q, .int .u64 cs[j].e.id, .string cs[j].e.p.key, .bool cs[j].e.p.dur, .bool cs[j].e.p.red, .string cs[j].e.p.id, .int .u8 k, .int .u64 n, .string ss, .slice a3 n3 c3, .slice a4 n4 c4, .string cs[j].e.body] 35)) w2.heap.size (.slice (some ⟨w2.heap.size, 0, none⟩) 1 1) [⟨cs[j].e, ⟨k, n, ss, a3, n3, c3, a4, n4, c4⟩⟩] := ShowsG.lit (C := putC) [⟨cs[j].e, ⟨k, n, ss, a3, n3, c3, a4, n4, c4⟩⟩] (by simp [Code.all, putC, PutC.vs]) (by simp [maxLen])
      have ho5 := ((ho.out.step PutS_sub hb12).step PutS_sub hb5).own
      have hz5 := hb5.size
      have hz12 := hb12.size
      have HR := Lib.hid (And.intro hP2 (And.intro hb12 hb5))
      clear g0 g1 g2 g3 g4 g5 g6 g7 g8 g9 g10 g11 e0 e1 e2 e3 e4 e5 e6 e7 e8 e9 e10 e11 hp2 hb2 hP2 hb12 hb5 hB1 hz1
      go_wp2_with (at_builtin
                   refine wpList_appendW putC _ rfl (.tmp 14) (.tmp 18) 22 rfl w.heap.size 35 _ 160 Tryz.underlying22 infoPut rfl _ _ rfl ho5 _ _ _ rfl hm (by simp) (by have := HDL.out; simp only [List.length_singleton]; omega) (by have := HDL.out; simp only [List.length_singleton]; omega) (by omega) ?_
                   intro v6 w6 ho6 hg6 hv6)
      obtain ⟨hP2, hb12, hb5⟩ := HR.out
      have hP6 := Lib.hid (ho.out.push PutS_sub hbs hb12 hP2 hb5 ho6 hg6 hv6)
      have hbw6 : Hid (Below w.heap.size w w6) := Lib.hid (((hb.out.trans (hb12.mono hbs)).trans (hb5.mono (by omega))).grown hg6 (by omega) (fun i hi => (ho5.block i hi).1))
      go_roundw
      case rel => exact ⟨j + 1, _, by omega, by go_num, hP6, Lib.hid (by rw [esOf_snoc, HT.out]), hbw6⟩
      case measure => simp [intOf]; omega
    · have hjl : ¬ (j : Int) < (cs.length : Int) := by omega
      have HES := Lib.hid (show esOf ds = esOf cs by rw [hes.out, List.take_of_length_le (by rw [esOf_len]; omega)])
      have HCU := Lib.hid (fun w' => cutP_any Al ds.length cl w' hlc)
      clear hlc
      go_wp2_with fail
      refine (HCU.out _).mono ?_
      rintro e w2 ⟨rfl, rfl⟩
      go_wp2_with fail
      go_ret
      exact ⟨Al, cl, ds, rfl, HES.out, ho.out, hb.out⟩

/-- Two boxes of works that a call has just made. -/
structure At2 (w0 : World) (v1 v2 : Value) (w : World) : Prop where
  a : BoxK w w0.heap.size v1 v2
  z : BoxK w (w0.heap.size + 1) (.slice none 0 0) (.slice none 0 0)
  bel : Below w0.heap.size w0 w
section
variable {w0 w w' : World} {v1 v2 : Value}
theorem At2.step (h : At2 w0 v1 v2 w) (hb : Below w.heap.size w w') : At2 w0 v1 v2 w' := ⟨h.a.kept hb (Nat.le_refl _), h.z.kept hb (Nat.le_refl _), h.bel.trans (hb.mono h.bel.size)⟩
theorem At2.drw (h : At2 w0 v1 v2 w) : At2 w0 v1 v2 w.drew := h.step (below_drew1 (Below.refl _ _))
theorem At2.cs (h : At2 w0 v1 v2 w) : w.cell? ⟨w0.heap.size, 0, none⟩ = some v1 ∧ w.cell? ⟨w0.heap.size, 1, none⟩ = some v2 := ⟨h.a.c0, h.a.c1⟩
theorem At2.set2 (h : At2 w0 v1 v2 w) (u1 u2 : Value) : BoxK ((w.setCell ⟨w0.heap.size + 1, 0, none⟩ u1).setCell ⟨w0.heap.size + 1, 1, none⟩ u2) w0.heap.size v1 v2 :=
  ((Below.heap_setCell _ _ _ _ (by show w0.heap.size ≠ w0.heap.size + 1; omega)).trans (Below.heap_setCell _ _ _ _ (by show w0.heap.size ≠ w0.heap.size + 1; omega))).trans h.a
theorem At2.cs2 (h : At2 w0 v1 v2 w) (u1 u2 : Value) : ((w.setCell ⟨w0.heap.size + 1, 0, none⟩ u1).setCell ⟨w0.heap.size + 1, 1, none⟩ u2).cell? ⟨w0.heap.size, 0, none⟩ = some v1 ∧ ((w.setCell ⟨w0.heap.size + 1, 0, none⟩ u1).setCell ⟨w0.heap.size + 1, 1, none⟩ u2).cell? ⟨w0.heap.size, 1, none⟩ = some v2 := ⟨(h.set2 u1 u2).c0, (h.set2 u1 u2).c1⟩
theorem At2.new (w : World) (v1 v2 : Value) : At2 w v1 v2 ((w.alloc (Obj.cells #[v1, v2] 25)).alloc (Obj.cells #[.slice none 0 0, .slice none 0 0] 25)) := by
  refine ⟨(BoxK.new w v1 v2).kept ((Below.refl _ _).alloc (Nat.le_refl _) _) (Nat.le_refl _), ?_, (below_boxV _ _).alloc (by simp) _⟩
  have := BoxK.new (w.alloc (Obj.cells #[v1, v2] 25)) (.slice none 0 0) (.slice none 0 0)
  rw [World.size_alloc] at this
  exact this
end
/-- What copied tells: rows of its own. -/
structure OwnW (w : World) (base : Nat) (y : WorkC) : Prop where
  puts : ∃ c, GRow putC 35 PutS base (.slice y.A1 y.cs.length c) y.cs w
  takes : ∃ c, OwnG refC 37 w base (.slice y.A2 y.rs.length c) y.rs
  e1 : y.c1 = y.cs.length
  e2 : y.c2 = y.rs.length
def CopWSaid (ps : List PutE) (rs : List RefE) (w : World) (e : Ending) (w' : World) : Prop := ∃ y : WorkC, e = .returned (workVal y) ∧ y.ps = ps ∧ y.rs = rs ∧ OwnW w' w.heap.size y ∧ Below w.heap.size w w'

set_option maxHeartbeats 4000000 in
theorem copied_any (x : WorkC) (w : World) (h : ShowsW w x) (hl : x.cs.length ≤ 1000000) (hr : x.rs.length ≤ 1000000) (hf : FewS x.cs) :
    Calls Tryz.prog 47 #[workVal x] w (CopWSaid x.ps x.rs w) := by
  obtain ⟨A1, c1, cs, A2, c2, rs⟩ := x
  unfold CopWSaid workVal WorkC.ps
  simp only [] at hl hr hf ⊢
  have HP := Lib.hid (fun w' (ha : At2 w (.slice A1 cs.length c1) (.slice A2 rs.length c2) w') => eachP_any A1 c1 cs w' (h.puts.kept ha.bel (Nat.le_refl _)) hl hf)
  have HR := Lib.hid (fun w' (ha : At2 w (.slice A1 cs.length c1) (.slice A2 rs.length c2) w') => eachR_any A2 c2 rs w' (h.takes.kept ha.bel (Nat.le_refl _)) hr)
  unfold EachPSaid at HP
  have hA0 := At2.new w (.slice A1 cs.length c1) (.slice A2 rs.length c2)
  obtain ⟨k0, k1⟩ := hA0.cs
  generalize hW2 : (w.alloc (Obj.cells #[.slice A1 cs.length c1, .slice A2 rs.length c2] 25)).alloc (Obj.cells #[.slice none 0 0, .slice none 0 0] 25) = W2 at *
  have hs2 : W2.heap.size = w.heap.size + 1 + 1 := by rw [← hW2]; simp
  have HW2 := Lib.hid hW2
  have HS2 := Lib.hid hs2
  have hAd := hA0.drw
  clear h hl hr hf hW2 hs2
  go_enter Tryz.func47, Tryz.ntmps47
  go_upto_region 1 with fail
  rw [HW2.out]
  go_region_held3 (fun w' => w'.cell? ⟨w.heap.size, 0, none⟩ = some (.slice A1 cs.length c1) ∧ w'.cell? ⟨w.heap.size, 1, none⟩ = some (.slice A2 rs.length c2)) (first | with_reducible exact hA9.cs2 _ _ | with_reducible exact hA9.cs | with_reducible exact hA8.cs | with_reducible exact hAd.cs | with_reducible exact hA0.cs)
    (first
      | (go_at_call 68
         with_reducible refine (HP.out _ (by assumption)).mono ?_
         rintro e8 w8 ⟨A8, c8, ds, rfl, hes, hG8, hb8⟩
         have hA8 := hAd.step hb8)
      | (go_at_call 71
         with_reducible refine (HR.out _ hA8).mono ?_
         rintro e9 w9 ⟨A9, c9, rfl, ho9, hb9⟩
         have hA9 := hA8.step hb9
         have z0 := hA9.z.c0
         have z1 := hA9.z.c1
         have f0 := hA9.z.fr 0
         have f1 := hA9.z.fr 1))
  have hX10 := (hA9.z.set0 (.slice A8 ds.length ds.length)).set1 (.slice A9 rs.length rs.length)
  have hB10 : Below w.heap.size w ((w9.setCell ⟨w.heap.size + 1, 0, none⟩ (.slice A8 ds.length ds.length)).setCell ⟨w.heap.size + 1, 1, none⟩ (.slice A9 rs.length rs.length)) := below_set (below_set hA9.bel (by show w.heap.size ≤ w.heap.size + 1; omega) _) (by show w.heap.size ≤ w.heap.size + 1; omega) _
  have hk10 : ∀ i, i ≠ w.heap.size + 1 → ((w9.setCell ⟨w.heap.size + 1, 0, none⟩ (.slice A8 ds.length ds.length)).setCell ⟨w.heap.size + 1, 1, none⟩ (.slice A9 rs.length rs.length)).heap[i]? = w9.heap[i]? := fun i hi => (Below.heap_setCell _ _ _ _ (by show i ≠ w.heap.size + 1; exact hi)).trans (Below.heap_setCell _ _ _ _ (by show i ≠ w.heap.size + 1; exact hi))
  have hb2 : W2.drew.heap.size = w.heap.size + 1 + 1 := HS2.out
  have hb8s := hb8.size
  have hG10 := ((hG8.step PutS_sub hb9).keep (w' := (w9.setCell ⟨w.heap.size + 1, 0, none⟩ (.slice A8 ds.length ds.length)).setCell ⟨w.heap.size + 1, 1, none⟩ (.slice A9 rs.length rs.length)) PutS_sub (by simp) (fun k hk _ => hk10 k (by omega))).mono PutS_sub (b' := w.heap.size) (by omega)
  have hR10 := (ho9.keep (w' := (w9.setCell ⟨w.heap.size + 1, 0, none⟩ (.slice A8 ds.length ds.length)).setCell ⟨w.heap.size + 1, 1, none⟩ (.slice A9 rs.length rs.length)) (fun g hg => hk10 g (by have := (ho9.block g hg).1; omega))).mono (b' := w.heap.size) (by omega)
  have H10 := Lib.hid (And.intro hX10 (And.intro hB10 (And.intro hG10 (And.intro hR10 hes))))
  clear hX10 hB10 hk10 hb2 hb8s hG10 hR10 hes hG8 hb8 hA8 ho9 hb9 hA9 hA0 hAd z0 z1 f0 f1 k0 k1
  go_wp2_with fail
  exact bodyPost_ret (results_cell_row rfl _ _ (w.heap.size + 1) 25 _ (0, 0) _ rfl H10.out.1 Tryz.underlying25 rfl (by kernel_rfl)) rfl ⟨⟨A8, ds.length, ds, A9, rs.length, rs⟩, rfl, H10.out.2.2.2.2, rfl, ⟨⟨c8, H10.out.2.2.1⟩, ⟨c9, H10.out.2.2.2.1⟩, rfl, rfl⟩, H10.out.2.1⟩

section
variable {w w' : World} {base : Nat} {y : WorkC}
theorem OwnW.keep (h : OwnW w base y) (hs : w.heap.size ≤ w'.heap.size) (hk : ∀ k, base ≤ k → k < w.heap.size → w'.heap[k]? = w.heap[k]?) : OwnW w' base y := by
  obtain ⟨⟨c, hc⟩, ⟨d, hd⟩, e1, e2⟩ := h
  exact ⟨⟨c, hc.keep PutS_sub hs hk⟩, ⟨d, hd.keep fun g hg => hk g (hd.block g hg).1 (hd.block g hg).2⟩, e1, e2⟩
theorem OwnW.step (h : OwnW w base y) (hb : Below w.heap.size w w') : OwnW w' base y := h.keep hb.size fun k _ hkw => hb.block k hkw
theorem OwnW.mono (h : OwnW w base y) {b' : Nat} (hb : b' ≤ base) : OwnW w b' y := by
  obtain ⟨⟨c, hc⟩, ⟨d, hd⟩, e1, e2⟩ := h
  exact ⟨⟨c, hc.mono PutS_sub hb⟩, ⟨d, hd.mono hb⟩, e1, e2⟩
/-- What is the call's own shows its work, from its blocks alone. -/
theorem OwnW.shows (h : OwnW w base y) (hl : y.cs.length ≤ 1099511627776) (hr : ∀ r ∈ y.rs, RefAt r) (hrl : y.rs.length ≤ 8796093022208) : ShowsW (lowm base w) y := by
  obtain ⟨⟨c, hc⟩, ⟨d, hd⟩, e1, e2⟩ := h
  obtain ⟨g, _, hs⟩ := (hc.own.low (Nat.le_refl base)).shows
  obtain ⟨g2, _, hs2⟩ := (hd.low (Nat.le_refl base)).shows
  have h1 := hs.head' (k := y.cs.length) (c' := y.cs.length) (Nat.le_refl _) (Nat.le_refl _) hs.lens.2.1
  have h2 := hs2.head' (k := y.rs.length) (c' := y.rs.length) (Nat.le_refl _) (Nat.le_refl _) hs2.lens.2.1
  rw [List.take_length] at h1 h2
  refine ⟨⟨⟨g, by rw [e1]; exact h1⟩, fun j hj => hc.low PutS_sub (Nat.le_refl _) j hj, hl⟩, ⟨⟨g2, by rw [e2]; exact h2⟩, fun j hj => hr _ (List.getElem_mem hj), hrl⟩⟩
end
theorem RowR.refs {w : World} {A : Option Addr} {n : Nat} {rs : List RefE} (h : RowR w A n rs) : ∀ r ∈ rs, RefAt r := fun r hr => by
  obtain ⟨j, hj, rfl⟩ := List.getElem_of_mem hr
  exact h.each j hj

end Go.Proofs.YtpmafabphlejeaaGreat
