/-
  What Empty, Queues, Into and From tell is the document's.
  Conditions: none.
-/
import Derived.Test.YtpmafabphlejeaaGreatRows
import Derived.Test.YtpmafabphlejeaaGreatWTaZ
import Derived.Test.YtpmafabphlejeaaGreatWqGZ
namespace Go.Proofs.YtpmafabphlejeaaGreat
open Go.ChangeShapes Go.WideShapes Go.ChangeAt Go.RowKit
open Go.ChangeMaps (open_string shut_string)
set_option linter.unusedVariables false
set_option linter.unusedSimpArgs false
set_option maxRecDepth 100000

structure AtL (w0 : World) (v1 v2 : Value) (w : World) : Prop where
  box : BoxK w w0.heap.size v1 v2
  bel : Below w0.heap.size w0 w
section
variable {w0 w w' : World} {v1 v2 : Value}
theorem AtL.step (h : AtL w0 v1 v2 w) (hb : Below w.heap.size w w') : AtL w0 v1 v2 w' := ⟨h.box.kept hb (Nat.le_refl _), h.bel.trans (hb.mono h.bel.size)⟩
theorem AtL.drw (h : AtL w0 v1 v2 w) : AtL w0 v1 v2 w.drew := ⟨h.box, below_drew1 h.bel⟩
theorem AtL.cs (h : AtL w0 v1 v2 w) : w.cell? ⟨w0.heap.size, 0, none⟩ = some v1 ∧ w.cell? ⟨w0.heap.size, 1, none⟩ = some v2 := ⟨h.box.c0, h.box.c1⟩
end
theorem names_nil {l ns : List Nm} (h : NamesOf l ns) : ns.length = 0 ↔ l.length = 0 := by
  constructor
  · intro e
    have : ns = [] := List.length_eq_zero_iff.1 e
    subst this
    cases l with
    | nil => rfl
    | cons a r => exact absurd ((h.mem a).2 List.mem_cons_self) List.not_mem_nil
  · intro e
    have : l = [] := List.length_eq_zero_iff.1 e
    subst this
    cases ns with
    | nil => rfl
    | cons a r => exact absurd ((h.mem a).1 List.mem_cons_self) List.not_mem_nil
theorem nodup_len {α : Type} [DecidableEq α] : ∀ (a b : List α), a.Nodup → (∀ x, x ∈ a → x ∈ b) → a.length ≤ b.length
  | [], _, _, _ => Nat.zero_le _
  | x :: r, b, hn, hs => by
    have hx := hs x List.mem_cons_self
    have hn2 := List.nodup_cons.1 hn
    have h1 := nodup_len r (b.erase x) hn2.2 (fun y hy => (List.mem_erase_of_ne (fun e => hn2.1 (by rw [← e]; exact hy))).2 (hs y (List.mem_cons_of_mem _ hy)))
    rw [List.length_erase_of_mem hx] at h1
    have h2 := List.length_pos_of_mem hx
    rw [List.length_cons]
    omega
theorem names_le2 {l ns : List Nm} {n : Nat} (h : NamesOf l ns) (hl : l.length ≤ n) : ns.length ≤ n := Nat.le_trans (nodup_len ns l (asc_nodup h.asc) fun x hx => (h.mem x).1 hx) hl
/-- The two rows of names. -/
def RowsL (l ns : List Nm) (A1 : Option Addr) (c1 : Nat) (A2 : Option Addr) (c2 : Nat) (w : World) : Prop :=
  NamesOf l ns ∧ (∃ d, ShowsG strC w d (.slice A1 ns.length c1) (ns.map str8)) ∧ ∃ d, ShowsG strC w d (.slice A2 ns.length c2) (ns.map str8)
theorem RowsL.step {l ns : List Nm} {A1 A2 : Option Addr} {c1 c2 : Nat} {w w' : World} (h : RowsL l ns A1 c1 A2 c2 w) (hb : Below w.heap.size w w') : RowsL l ns A1 c1 A2 c2 w' := by
  obtain ⟨h1, ⟨d, h2⟩, d', h3⟩ := h
  exact ⟨h1, ⟨d, h2.below' hb (Nat.le_refl _)⟩, d', h3.below' hb (Nat.le_refl _)⟩
/-- What one of the two told. -/
def OneL (l : List Nm) (v : Value) (w : World) : Prop := ∃ (ns : List Nm) (A : Option Addr) (c d : Nat), v = .slice A ns.length c ∧ NamesOf l ns ∧ ShowsG strC w d (.slice A ns.length c) (ns.map str8)
theorem OneL.of {l ns : List Nm} {v : Value} {w : World} {base : Nat} (hn : NamesOf l ns) (h : OwnG strC 9 w base v (ns.map str8)) : OneL l v w := by
  obtain ⟨A, c, hv, _⟩ := h.form
  rw [List.length_map] at hv
  subst hv
  obtain ⟨d, _, hs⟩ := h.shows
  exact ⟨ns, A, c, d, rfl, hn, hs⟩
theorem OneL.step {l : List Nm} {v : Value} {w w' : World} (h : OneL l v w) (hb : Below w.heap.size w w') : OneL l v w' := by
  obtain ⟨ns, A, c, d, hv, hn, hs⟩ := h
  exact ⟨ns, A, c, d, hv, hn, hs.below' hb (Nat.le_refl _)⟩
theorem OneL.both {l : List Nm} {v v' : Value} {w : World} (h : OneL l v w) (h' : OneL l v' w) : ∃ ns A1 c1 A2 c2, v = .slice A1 ns.length c1 ∧ v' = .slice A2 ns.length c2 ∧ RowsL l ns A1 c1 A2 c2 w := by
  obtain ⟨ns, A, c, d, hv, hn, hs⟩ := h
  obtain ⟨ns', A', c', d', hv', hn', hs'⟩ := h'
  obtain rfl := hn.uniq hn'
  exact ⟨ns, A, c, A', c', hv, hv', hn, ⟨d, hs⟩, d', hs'⟩

set_option maxHeartbeats 8000000 in
theorem wlooks_walk (x : WorkC) (q : ByteArray) (w : World) (hx : ShowsW w x) (_ : q.size ≤ 140737488351232) :
    Calls Tryz.prog 5 #[workVal x, .string q] w fun e w' => e = .returned (.bool true) ∧ Below w.heap.size w w' := by
  have HSM := Lib.hid (fun w' (hb : Below w.heap.size w w') => qsmallw_any x w' (hx.kept hb (Nat.le_refl _)))
  have HHD := Lib.hid (fun w' => whead_any w')
  have HSH := Lib.hid hx
  have HA := Lib.hid (show AtL w (.slice x.A1 x.cs.length x.c1) (.slice x.A2 x.rs.length x.c2) (w.alloc (Obj.cells #[.slice x.A1 x.cs.length x.c1, .slice x.A2 x.rs.length x.c2] 25)) from ⟨BoxK.new w _ _, below_boxV w _⟩)
  have hwv : workVal x = .agg #[.slice x.A1 x.cs.length x.c1, .slice x.A2 x.rs.length x.c2] := rfl
  rw [hwv] at HSM ⊢
  obtain ⟨k0, k1⟩ := HA.out.cs
  clear hwv hx
  go_enter Tryz.func5, Tryz.ntmps5
  go_wp2_with fail
  refine (HSM.out _ HA.out.bel).mono ?_
  rintro e w2 ⟨r, rfl, hr, hb2⟩
  have hA2 := HA.out.step hb2
  clear k0 k1
  cases r
  case false =>
    have HB2 := Lib.hid hA2.bel
    clear hr hb2 hA2
    go_wp2_with fail
    refine (HHD.out _).mono ?_
    rintro e w3 ⟨rfl, hb3⟩
    have HB3 := Lib.hid (HB2.out.trans (hb3.mono HB2.out.size))
    clear hb3
    go_wp2_with fail
    go_ret
    exact ⟨rfl, HB3.out⟩
  obtain ⟨hl1, hf1, hl2⟩ := hr rfl
  obtain ⟨LL, hLL⟩ : ∃ LL, LL = nmP (ifW x).ps ++ nmR (ifW x).rs := ⟨_, rfl⟩
  have HQ1 := Lib.hid (fun w' (hb : Below w.heap.size w w') => queues_any x w' (HSH.out.kept hb (Nat.le_refl _)) hf1.few)
  have HQ2 := Lib.hid (fun w' (hb : Below w.heap.size w w') => qqueues_any x w' (HSH.out.kept hb (Nat.le_refl _)))
  rw [← hLL] at HQ1 HQ2
  unfold QueSaid at HQ1 HQ2
  have HEM := Lib.hid (fun w' (hb : Below w.heap.size w w') => empty_any x w' (HSH.out.kept hb (Nat.le_refl _)) hf1.few)
  have HI1 := Lib.hid (fun y w' (hb : Below w.heap.size w w') => into_any x y w' (HSH.out.kept hb (Nat.le_refl _)) hf1.few)
  have HI2 := Lib.hid (fun y w' (hb : Below w.heap.size w w') => qinto_any x y w' (HSH.out.kept hb (Nat.le_refl _)) (by omega))
  have HF1 := Lib.hid (fun y w' (hb : Below w.heap.size w w') => from_any x y w' (HSH.out.kept hb (Nat.le_refl _)) hf1.few)
  have HF2 := Lib.hid (fun y w' (hb : Below w.heap.size w w') => qfrom_any x y w' (HSH.out.kept hb (Nat.le_refl _)) (by omega))
  have HLE := Lib.hid (show LL.length = (ifW x).cs.length + (ifW x).rs.length by rw [hLL]; simp [nmP, nmR, WorkC.ps, esOf_len])
  have HFL := Lib.hid (fun y => fromD_if_le x y)
  have HLN := Lib.hid (ifW_len (x := x))
  have HNL := Lib.hid (fun (ns : List Nm) (h : NamesOf LL ns) => (show ns.length ≤ 200 from names_le2 h (by have := HLE.out; have h2 := HLN.out; omega)))
  unfold workVal at HQ1 HQ2 HEM HI1 HI2 HF1 HF2
  have hAd := hA2.drw
  clear hr hb2 hl1 hl2 hf1 hLL
  obtain ⟨k0, k1⟩ := hA2.cs
  go_upto_region 3 with fail
  go_cut [5, 6] from 12 to 15 (fun a b wx => ∃ (ns : List Nm) (A1 : Option Addr) (c1 : Nat) (A2 : Option Addr) (c2 : Nat), a = .slice A1 ns.length c1 ∧ b = .slice A2 ns.length c2 ∧ Hid (RowsL LL ns A1 c1 A2 c2 wx) ∧ Hid (AtL w (.slice x.A1 x.cs.length x.c1) (.slice x.A2 x.rs.length x.c2) wx))
  case first =>
    go_region_held3 (fun w' => w'.cell? ⟨w.heap.size, 0, none⟩ = some (.slice x.A1 x.cs.length x.c1) ∧ w'.cell? ⟨w.heap.size, 1, none⟩ = some (.slice x.A2 x.rs.length x.c2)) (first | with_reducible exact hA5.cs | with_reducible exact hA4.cs | with_reducible exact hA3.cs | with_reducible exact hAd.cs)
      (first
        | (go_at_call 23
           first
             | (with_reducible refine (HQ1.out _ hAd.bel).mono ?_
                rintro e3 w3 ⟨v3, ns3, rfl, hn3, ho3, hb3⟩
                have hA3 := hAd.step hb3
                have ho3 := OneL.of hn3 ho3)
             | (with_reducible refine (HQ1.out _ hA4.bel).mono ?_
                rintro e5 w5 ⟨v5, ns5, rfl, hn5, ho5, hb5⟩
                have hA5 := hA4.step hb5
                have HE := Lib.hid (And.intro (OneL.of hn5 ho5) (And.intro (ho4.step hb5) hA5))))
        | (go_at_call 24
           first
             | (with_reducible refine (HQ2.out _ hA3.bel).mono ?_
                rintro e5 w5 ⟨v5, ns5, rfl, hn5, ho5, hb5⟩
                have hA5 := hA3.step hb5
                have HE := Lib.hid (And.intro (ho3.step hb5) (And.intro (OneL.of hn5 ho5) hA5)))
             | (with_reducible refine (HQ2.out _ hAd.bel).mono ?_
                rintro e4 w4 ⟨v4, ns4, rfl, hn4, ho4, hb4⟩
                have hA4 := hAd.step hb4
                have ho4 := OneL.of hn4 ho4)))
    all_goals
      go_wp2_with fail
      go_meet
      case rel =>
        obtain ⟨h1, h2, h3⟩ := HE.out
        obtain ⟨ns, A1, c1, A2, c2, e1, e2, hR⟩ := h1.both h2
        exact ⟨ns, A1, c1, A2, c2, e1, e2, Lib.hid hR, Lib.hid h3⟩
  case rest =>
    intros
    obtain ⟨ns, B1, b1, B2, b2, rfl, rfl, hR, hA⟩ := hcut
    rename World => w5
    clear k0 k1 hAd hA2
    obtain ⟨k0, k1⟩ := hA.out.cs
    have HEM5 := Lib.hid (HEM.out w5 hA.out.bel)
    have hnn := (names_nil hR.out.1).trans (by rw [HLE.out])
    have he : decide ((ifW x).cs.length + (ifW x).rs.length = 0) = decide (ns.length = 0) := by rw [Bool.eq_iff_iff]; simp only [decide_eq_true_eq]; exact hnn.symm
    rw [he] at HEM5
    have hee : ((ns.length : Int) == 0) = decide (ns.length = 0) := by rw [Bool.eq_iff_iff]; simp
    have hss : ((ns.length : Int) != (ns.length : Int)) = false := by simp
    clear he hnn
    generalize decide (ns.length = 0) = R at *
    have hrr : (R != R) = false := by simp
    go_wp2_with fail
    refine HEM5.out.mono ?_
    rintro e w6 ⟨rfl, hb6⟩
    have hA6 := Lib.hid (hA.out.step hb6)
    have hR6 := Lib.hid (hR.out.step hb6)
    clear k0 k1 hb6 hss
    go_wp2_with fail
    have HEND := Lib.hid (fun w' (ha : AtL w (.slice x.A1 x.cs.length x.c1) (.slice x.A2 x.rs.length x.c2) w') => (HHD.out w'))
    have hnl : ns.length ≤ 200 := by
      exact HNL.out _ hR6.out.1
    go_loopw [7] (fun iv wr => ∃ i : Nat, i ≤ ns.length ∧ iv = .int .i64 i ∧ Hid (AtL w (.slice x.A1 x.cs.length x.c1) (.slice x.A2 x.rs.length x.c2) wr) ∧ Hid (RowsL LL ns B1 b1 B2 b2 wr)) (fun iv _ => ns.length - (intOf iv).toNat)
    case atStart => exact ⟨0, by omega, rfl, hA6, hR6⟩
    case round =>
      rename World => wr
      obtain ⟨i, hi, rfl, hA, hR⟩ := hrel
      obtain ⟨k0, k1⟩ := hA.out.cs
      by_cases hlt : i < ns.length
      · obtain ⟨hNM, ⟨d, hs⟩, d', hs'⟩ := hR.out
        obtain ⟨o, hB1, _, hc⟩ := hs.at_ (by rw [List.length_map]; omega)
        obtain ⟨o', hB2, _, hc'⟩ := hs'.at_ (by rw [List.length_map]; omega)
        subst hB1 hB2
        have y0 : wr.cell? ⟨d, o + i, none⟩ = some (.string (str8 ns[i])) := by
          have c0 := hc i (by rw [List.length_map]; exact hlt) 0 (by decide)
          rw [List.getElem_map] at c0
          simpa [strC] using c0
        have y1 : wr.cell? ⟨d', o' + i, none⟩ = some (.string (str8 ns[i])) := by
          have c0 := hc' i (by rw [List.length_map]; exact hlt) 0 (by decide)
          rw [List.getElem_map] at c0
          simpa [strC] using c0
        have hdl : d < wr.heap.size := hs.lt (by rw [List.length_map]; omega)
        have hdl' : d' < wr.heap.size := hs'.lt (by rw [List.length_map]; omega)
        obtain ⟨y, hy⟩ : ∃ y, y = str8 ns[i] := ⟨_, rfl⟩
        rw [← hy] at y0 y1
        obtain ⟨N, hN⟩ : ∃ N, N = intoD (ifW x).ps y := ⟨_, rfl⟩
        obtain ⟨L, hL⟩ : ∃ L, L = fromD (ifW x).rs y := ⟨_, rfl⟩
        have HI1' := Lib.hid (fun w' (hb : Below wr.heap.size wr w') => HI1.out y w' (hA.out.bel.trans (hb.mono hA.out.bel.size)))
        have HI2' := Lib.hid (fun w' (hb : Below wr.heap.size wr w') => HI2.out y w' (hA.out.bel.trans (hb.mono hA.out.bel.size)))
        rw [← hN] at HI1' HI2'
        have HF1' := Lib.hid (fun w' (hb : Below wr.heap.size wr w') => (show Calls Tryz.prog 29 #[.agg #[.slice x.A1 x.cs.length x.c1, .slice x.A2 x.rs.length x.c2], .string y] w' fun e w'' => ∃ A c d, e = .returned (.slice A L.length c) ∧ ShowsG (natC .u64) w'' d (.slice A L.length c) L ∧ Below w'.heap.size w' w'' from (HF1.out y w' (hA.out.bel.trans (hb.mono hA.out.bel.size))).mono (by
          rintro e w'' ⟨v, rfl, ho, hb'⟩
          rw [← hL] at ho
          obtain ⟨A, c, d, rfl, hs⟩ := ho.rowN
          exact ⟨A, c, d, rfl, hs, hb'⟩)))
        have HF2' := Lib.hid (fun w' (hb : Below wr.heap.size wr w') => (show Calls Tryz.prog 30 #[.agg #[.slice x.A1 x.cs.length x.c1, .slice x.A2 x.rs.length x.c2], .string y] w' fun e w'' => ∃ A c d, e = .returned (.slice A L.length c) ∧ ShowsG (natC .u64) w'' d (.slice A L.length c) L ∧ Below w'.heap.size w' w'' from (HF2.out y w' (hA.out.bel.trans (hb.mono hA.out.bel.size))).mono (by
          rintro e w'' ⟨v, rfl, ho, hb'⟩
          rw [← hL] at ho
          obtain ⟨A, c, d, rfl, hs⟩ := ho.rowN
          exact ⟨A, c, d, rfl, hs, hb'⟩)))
        have hLl : L.length ≤ 1000000 := by rw [hL]; exact HFL.out y
        have HSA := Lib.hid (fun A1 A2 c1 c2 d1 d2 w' (h1 : ShowsG (natC .u64) w' d1 (.slice A1 L.length c1) L) (h2 : ShowsG (natC .u64) w' d2 (.slice A2 L.length c2) L) => (show Calls Tryz.prog 28 #[.slice A1 L.length c1, .slice A2 L.length c2] w' fun e w'' => e = .returned (.bool true) ∧ Below w'.heap.size w' w'' from by
          have := qsameN_any A1 A2 c1 c2 d1 d2 L L w' h1 h2 hLl hLl
          rwa [decide_eq_true rfl] at this))
        have HNX := Lib.hid (fun w' w'' (hb' : Below w'.heap.size w' w'') (hb : Below wr.heap.size wr w') => hb.trans (hb'.mono hb.size))
        have hbd0 : Below wr.heap.size wr wr.drew := below_drew1 (Below.refl _ _)
        have hNN : ((N : Int) != (N : Int)) = false := by simp
        have hNE : ((N : Int) == (N : Int)) = true := by simp
        have hyy : (y.toList == y.toList) = true := by simp
        have hj1 : (i : Int) < (ns.length : Int) := by omega
        have hj0 : (0 : Int) ≤ (i : Int) := by omega
        have b3 : IntKind.i64.wrap ((i : Int) + 1) = (i : Int) + 1 := i64_id _ (by omega) (by omega)
        have HKEEP := Lib.hid (fun w' (hb : Below wr.heap.size wr w') => (show w'.cell? ⟨w.heap.size, 0, none⟩ = some (.slice x.A1 x.cs.length x.c1) ∧ w'.cell? ⟨w.heap.size, 1, none⟩ = some (.slice x.A2 x.rs.length x.c2) ∧ w'.cell? ⟨d, o + i, none⟩ = some (.string y) ∧ w'.cell? ⟨d', o' + i, none⟩ = some (.string y) from by
          have ha := hA.out.step hb
          exact ⟨ha.box.c0, ha.box.c1, (World.cell?_of_block (hb.block _ hdl)).trans y0, (World.cell?_of_block (hb.block _ hdl')).trans y1⟩))
        clear hNM hs hs' hc hc' hy hN hL hLl hdl hdl'
        go_upto_region 9 with fail
        go_region_held3 (fun w' => w'.cell? ⟨w.heap.size, 0, none⟩ = some (.slice x.A1 x.cs.length x.c1) ∧ w'.cell? ⟨w.heap.size, 1, none⟩ = some (.slice x.A2 x.rs.length x.c2) ∧ w'.cell? ⟨d, o + i, none⟩ = some (.string y) ∧ w'.cell? ⟨d', o' + i, none⟩ = some (.string y)) (first | with_reducible exact HKEEP.out _ (by assumption))
          (first
            | (go_at_call 26
               with_reducible refine (HI1'.out _ (by assumption)).mono ?_
               rintro e wa ⟨rfl, hba⟩
               have hba' := HNX.out _ _ hba (by assumption))
            | (go_at_call 27
               with_reducible refine (HI2'.out _ (by assumption)).mono ?_
               rintro e wb ⟨rfl, hbb⟩
               have hbb' := HNX.out _ _ hbb (by assumption))
            | (go_at_call 29
               with_reducible refine (HF1'.out _ (by assumption)).mono ?_
               rintro e wc ⟨F1, f1, g1, rfl, hs1, hbc⟩
               have hbc' := HNX.out _ _ hbc (by assumption)
               have hs1' := fun w' (hb : Below wc.heap.size wc w') => ShowsG.below' hs1 hb (Nat.le_refl _))
            | (go_at_call 30
               with_reducible refine (HF2'.out _ (by assumption)).mono ?_
               rintro e wd ⟨F2, f2, g2, rfl, hs2, hbd⟩
               have hbd' := HNX.out _ _ hbd (by assumption)
               have hs2' := fun w' (hb : Below wd.heap.size wd w') => ShowsG.below' hs2 hb (Nat.le_refl _))
            | (go_at_call 28
               first
                 | (with_reducible refine (HSA.out _ _ _ _ _ _ _ (hs1' _ hbd) hs2).mono ?_
                    rintro e we ⟨rfl, hbe⟩
                    have hbe' := HNX.out _ _ hbe hbd')
                 | (with_reducible refine (HSA.out _ _ _ _ _ _ _ hs1 (hs2' _ hbc)).mono ?_
                    rintro e we ⟨rfl, hbe⟩
                    have hbe' := HNX.out _ _ hbe hbc')))
        all_goals
          go_wp2_with fail
          go_roundw
          case rel => exact ⟨i + 1, by omega, by go_num, Lib.hid (hA.out.step hbe'), Lib.hid (hR.out.step hbe')⟩
          case measure => simp [intOf]; omega
      · have hj1 : ¬ (i : Int) < (ns.length : Int) := by omega
        obtain ⟨N, hN⟩ : ∃ N, N = intoD (ifW x).ps q := ⟨_, rfl⟩
        obtain ⟨L, hL⟩ : ∃ L, L = fromD (ifW x).rs q := ⟨_, rfl⟩
        have HI1' := Lib.hid (fun w' (hb : Below wr.heap.size wr w') => HI1.out q w' (hA.out.bel.trans (hb.mono hA.out.bel.size)))
        have HI2' := Lib.hid (fun w' (hb : Below wr.heap.size wr w') => HI2.out q w' (hA.out.bel.trans (hb.mono hA.out.bel.size)))
        rw [← hN] at HI1' HI2'
        have HF1' := Lib.hid (fun w' (hb : Below wr.heap.size wr w') => (show Calls Tryz.prog 29 #[.agg #[.slice x.A1 x.cs.length x.c1, .slice x.A2 x.rs.length x.c2], .string q] w' fun e w'' => ∃ A c d, e = .returned (.slice A L.length c) ∧ ShowsG (natC .u64) w'' d (.slice A L.length c) L ∧ Below w'.heap.size w' w'' from (HF1.out q w' (hA.out.bel.trans (hb.mono hA.out.bel.size))).mono (by
          rintro e w'' ⟨v, rfl, ho, hb'⟩
          rw [← hL] at ho
          obtain ⟨A, c, d, rfl, hs⟩ := ho.rowN
          exact ⟨A, c, d, rfl, hs, hb'⟩)))
        have HF2' := Lib.hid (fun w' (hb : Below wr.heap.size wr w') => (show Calls Tryz.prog 30 #[.agg #[.slice x.A1 x.cs.length x.c1, .slice x.A2 x.rs.length x.c2], .string q] w' fun e w'' => ∃ A c d, e = .returned (.slice A L.length c) ∧ ShowsG (natC .u64) w'' d (.slice A L.length c) L ∧ Below w'.heap.size w' w'' from (HF2.out q w' (hA.out.bel.trans (hb.mono hA.out.bel.size))).mono (by
          rintro e w'' ⟨v, rfl, ho, hb'⟩
          rw [← hL] at ho
          obtain ⟨A, c, d, rfl, hs⟩ := ho.rowN
          exact ⟨A, c, d, rfl, hs, hb'⟩)))
        have hLl : L.length ≤ 1000000 := by rw [hL]; exact HFL.out q
        have HSA := Lib.hid (fun A1 A2 c1 c2 d1 d2 w' (h1 : ShowsG (natC .u64) w' d1 (.slice A1 L.length c1) L) (h2 : ShowsG (natC .u64) w' d2 (.slice A2 L.length c2) L) => (show Calls Tryz.prog 28 #[.slice A1 L.length c1, .slice A2 L.length c2] w' fun e w'' => e = .returned (.bool true) ∧ Below w'.heap.size w' w'' from by
          have := qsameN_any A1 A2 c1 c2 d1 d2 L L w' h1 h2 hLl hLl
          rwa [decide_eq_true rfl] at this))
        have HNX := Lib.hid (fun w' w'' (hb' : Below w'.heap.size w' w'') (hb : Below wr.heap.size wr w') => hb.trans (hb'.mono hb.size))
        have hbd0 : Below wr.heap.size wr wr.drew := below_drew1 (Below.refl _ _)
        have hNN : ((N : Int) != (N : Int)) = false := by simp
        have hNE : ((N : Int) == (N : Int)) = true := by simp
        have HKEEP := Lib.hid (fun w' (hb : Below wr.heap.size wr w') => (show w'.cell? ⟨w.heap.size, 0, none⟩ = some (.slice x.A1 x.cs.length x.c1) ∧ w'.cell? ⟨w.heap.size, 1, none⟩ = some (.slice x.A2 x.rs.length x.c2) from ⟨(hA.out.step hb).box.c0, (hA.out.step hb).box.c1⟩))
        clear hN hL hLl hnl
        go_upto_region 11 with fail
        clear hj1
        go_region_held3 (fun w' => w'.cell? ⟨w.heap.size, 0, none⟩ = some (.slice x.A1 x.cs.length x.c1) ∧ w'.cell? ⟨w.heap.size, 1, none⟩ = some (.slice x.A2 x.rs.length x.c2)) (first | with_reducible exact HKEEP.out _ (by assumption))
          (first
            | (go_at_call 9
               with_reducible refine (HHD.out _).mono ?_
               rintro e wf ⟨rfl, hbf⟩
               have hbf' := HNX.out _ _ hbf (by assumption))
            | (first
              | (go_at_call 26
                 with_reducible refine (HI1'.out _ (by assumption)).mono ?_
                 rintro e wa ⟨rfl, hba⟩
                 have hba' := HNX.out _ _ hba (by assumption))
              | (go_at_call 27
                 with_reducible refine (HI2'.out _ (by assumption)).mono ?_
                 rintro e wb ⟨rfl, hbb⟩
                 have hbb' := HNX.out _ _ hbb (by assumption))
              | (go_at_call 29
                 with_reducible refine (HF1'.out _ (by assumption)).mono ?_
                 rintro e wc ⟨F1, f1, g1, rfl, hs1, hbc⟩
                 have hbc' := HNX.out _ _ hbc (by assumption)
                 have hs1' := fun w' (hb : Below wc.heap.size wc w') => ShowsG.below' hs1 hb (Nat.le_refl _))
              | (go_at_call 30
                 with_reducible refine (HF2'.out _ (by assumption)).mono ?_
                 rintro e wd ⟨F2, f2, g2, rfl, hs2, hbd⟩
                 have hbd' := HNX.out _ _ hbd (by assumption)
                 have hs2' := fun w' (hb : Below wd.heap.size wd w') => ShowsG.below' hs2 hb (Nat.le_refl _))
              | (go_at_call 28
                 first
                   | (with_reducible refine (HSA.out _ _ _ _ _ _ _ (hs1' _ hbd) hs2).mono ?_
                      rintro e we ⟨rfl, hbe⟩
                      have hbe' := HNX.out _ _ hbe hbd')
                   | (with_reducible refine (HSA.out _ _ _ _ _ _ _ hs1 (hs2' _ hbc)).mono ?_
                      rintro e we ⟨rfl, hbe⟩
                      have hbe' := HNX.out _ _ hbe hbc'))))
        all_goals
          go_wp2_with fail
          go_ret
          exact ⟨rfl, (hA.out.step hbf').bel⟩

set_option maxRecDepth 100000 in
set_option maxHeartbeats 1000000 in
theorem wlooks_walk_lifted (os : Os) (started : os.Started) (H : Type) (enc : TypeId × Value → H) :
    ReturnsInHanded {} Tryz.checked os 5 .any (Rows.workLooksSpec.pre6 enc Tryz.prog Tryz.f5 Rows.workLooksRow.domain false) (Rows.workLooksSpec.post enc Tryz.prog Tryz.f5 false true false false) := by
  refine returnsInHanded_of_change_sized (C := Tryz.checked) own started (by kernel_rfl) Tryz.func5
    (ChangeSpec.witness6 (enc := enc) (C := Tryz.checked) false ⟨#[], #[.agg #[.slice none 0 0, .slice none 0 0], .string ⟨#[]⟩], []⟩ 8 (by kernel_rfl) (by kernel_rfl) (by kernel_rfl) (by kernel_rfl)) ?_
  intro W base args ds gs before hval0 hW hcnd hsz0 _
  have hval : ∀ (j : Nat) t v, Tryz.f5.params[j]? = some t → args[j]? = some v → Value.okWide Tryz.prog W .any base t v := hval0
  have hsz : (DataW.weightsEach Tryz.prog (Tryz.f5.params.toList ++ Rows.workLooksSpec.plain.varTypes Tryz.prog) (ds ++ gs)).all (· ≤ reachBytes) = true := hsz0
  have hW' := hW
  obtain ⟨p, q, hA0, hV, rfl, hfz, hnd⟩ := hW
  have hA : DataW.TrodAll enc Tryz.prog W 0 (fun _ => true) true Tryz.f5.params.toList args.toList ds p := hA0
  rw [Tryz.params5] at hA hval hsz
  obtain ⟨v0, vs0, d0, ds0, p0, q0, hargs, rfl, rfl, h0, r0⟩ := trodAll_cons hA
  obtain ⟨v1, vs1, d1, ds1, p1, q1, rfl, rfl, rfl, h1, r1⟩ := trodAll_cons r0
  obtain ⟨rfl, rfl, rfl⟩ := trodAll_nil r1
  obtain rfl : args = #[v0, v1] := by cases args; simp_all
  obtain ⟨rfl, rfl⟩ := trodVars_none hV
  have k0 := h0
  have lt0 : ∀ x ∈ p0, x.block < W.heap.size := by obtain ⟨m, hm⟩ := k0; exact DataW.trod_lt m _ _ _ hm
  have k1 := h1
  have lt1 : ∀ x ∈ p1, x.block < W.heap.size := by obtain ⟨m, hm⟩ := k1; exact DataW.trod_lt m _ _ _ hm
  obtain ⟨X0, rfl, sh0⟩ := open_work (hval 0 25 v0 rfl rfl) h0 hsz 0 rfl rfl
  obtain ⟨s1, rfl, rfl, rfl, _⟩ := open_string Tryz.underlying9 (hval 1 9 v1 rfl rfl) h1
  have zs1 := sized_string hsz (j := 1) (t := 9) rfl rfl
  have zt1 : s1.size ≤ 140737488351232 := by rw [← sb_length]; exact zs1
  clear hA0 hval0
  refine (wlooks_walk X0 s1 W sh0 zt1).mono fun e W' ⟨he, bel⟩ => ?_
  subst he
  exact ⟨_, rfl, _, _, _, [], _, [], hW', trodAll_mk1 (shut_bool Tryz.underlying4 _), (trodAll_cons_mk (Below.trod laidOut (by kernel_rfl) (of_decide_eq_true (by kernel_rfl)) k0 bel lt0) (trodAll_cons_mk (Below.trod laidOut (by kernel_rfl) (of_decide_eq_true (by kernel_rfl)) k1 bel lt1) trodAll_mk0)), rfl, bel.frame _, fun h => by cases h⟩

theorem workLooks_holds : Rows.WorkLooksSaid :=
  OpenClaim.holds_of_wide 5 Tryz.f5 rfl rfl rfl rfl rfl rfl rfl ⟨rfl, rfl, rfl, rfl, rfl⟩ rfl rfl rfl rfl rfl (by kernel_rfl) Tryz.func5 (by kernel_rfl)
    (of_decide_eq_true (by kernel_rfl)) (by unfold Func.isWrapper; first | (rw [if_pos (by decide +kernel)]; kernel_rfl) | (rw [if_neg (by decide +kernel)]; exact ⟨rfl, rfl⟩))
    (fun os started H enc _ => wlooks_walk_lifted os started H enc)
#print axioms workLooks_holds
end Go.Proofs.YtpmafabphlejeaaGreat
