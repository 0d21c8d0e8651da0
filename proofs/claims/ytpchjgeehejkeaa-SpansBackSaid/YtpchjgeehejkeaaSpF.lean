/-
  The contracts of changed, Add and Cut.
  Conditions: the numbers are of 32 bits; at most 2^36 spans.
-/
import Derived.Test.YtpchjgeehejkeaaSpE
namespace Go.Proofs.Ytpchjgeehejkeaa
open Go.RowKit
set_option linter.unusedVariables false
set_option linter.unusedSimpArgs false

theorem shows_mid {w : World} {d n c : Nat} {A : Option Addr} {l : List Sp} (hl : ShowsG spanC w d (.slice A n c) l) {st en : Nat} (hse : st ≤ en) (hen : en ≤ n) :
    ShowsG spanC w d (.slice (if en = st then A else Option.map (fun x => x.add (st * 2)) A) (en - st) (en - st)) ((l.take en).drop st) := by
  obtain ⟨h1, h2, h3⟩ := hl.lens
  have hh := hl.head' (k := en) (c' := en) (by omega) (Nat.le_refl _) (by omega)
  have hlen : (l.take en).length = en := by simp; omega
  exact hh.tail' (by omega) _ (fun h => by rw [if_neg (by omega)]; rfl) (Nat.le_refl _) (by omega)

/-- What changed answers. -/
def ChangeSaid (mode : Nat) (a : List Sp) (n1 x y : Nat) (v : Value) (code : Int) (r : List Sp) : Prop :=
  (canon a ∧ x ≤ y ∧ code = 0 ∧ canon r ∧ (∀ n, memS r n ↔ opM mode a [(x, y)] n) ∧ u32s r ∧ r.length ≤ 2 * (n1 + 1)) ∨ (¬ canon a ∧ code = 30 ∧ r = [] ∧ v = .slice none 0 0) ∨ (canon a ∧ ¬ x ≤ y ∧ code = 2 ∧ r = [] ∧ v = .slice none 0 0)

set_option maxHeartbeats 1600000 in
theorem changed_any (A : Option Addr) (c n d f t mode g : Nat) (l : List Sp) (w : World) (hn : l.length = n) (hl : ShowsG spanC w d (.slice A n c) l) (hu : u32s l) (hb : n ≤ 68719476736) (hf : f < 4294967296) (ht : t < 4294967296) (hmode : mode = 1 ∨ mode = 2)
    (hk : Keeps mode g) (eg : ∀ args w, (callFunc g args).run Try.prog w = .ok (.enter g args) w) :
    Calls Try.prog 31 #[.slice A n c, .agg #[.int .u32 f, .int .u32 t], .func (.func g) #[] #[]] w fun e w' => ∃ v code r, e = .returned (.tuple #[v, .int .i64 code]) ∧ OwnG spanC 37 w' w.heap.size v r ∧ Below w.heap.size w w' ∧ ChangeSaid mode l n f t v code r := by
  have hr := Lib.hid (fun w' (hb' : Below w.heap.size w w') => right_any A c n d l w' hn (hl.below' hb' (Nat.le_refl _)) hu (by omega))
  have hbx : Below w.heap.size w (w.alloc (.cells #[.int .u32 f, .int .u32 t] 37)) := (Below.refl _ _).alloc (Nat.le_refl _) _
  by_cases ha : canon l
  · rw [show decide (canon l) = true by simpa using ha] at hr
    by_cases hft : f ≤ t
    · have hm := Lib.hid (fun w' (hb' : Below w.heap.size w w') => met_any A c n d f t l w' hn (hl.below' hb' (Nat.le_refl _)) hu hb ha hft ht)
      obtain ⟨hle, hcn, hcm⟩ := hl.lens
      have HN := Lib.hid hn
      have HX := Lib.hid (And.intro ha hu)
      have HL := Lib.hid hl
      have HB := Lib.hid hbx
      have hftI : ¬ ((t : Int) < (f : Int)) := by omega
      unfold maxLen at hcm
      clear ha hu hl hle hn hbx
      go_enter Try.func31, Try.ntmps31
      go_wp2_with fail
      refine (hr.out _ HB.out).mono ?_
      rintro e w1 ⟨rfl, hb1⟩
      have hbw1 := HB.out.trans (hb1.mono (by simp))
      have k0 : w1.cell? ⟨w.heap.size, 0, none⟩ = some (.int .u32 (f : Nat)) := (hb1.cell (p := ⟨w.heap.size, 0, none⟩) (by simp)).trans (cell_of_row _ _ 0 _ 37 (0, 0) (heap_alloc_new w _))
      have k1 : w1.cell? ⟨w.heap.size, 1, none⟩ = some (.int .u32 (t : Nat)) := (hb1.cell (p := ⟨w.heap.size, 1, none⟩) (by simp)).trans (cell_of_row _ _ 1 _ 37 (0, 0) (heap_alloc_new w _))
      have hsz : w.heap.size < w1.heap.size := by have := hb1.size; simp at this; omega
      clear hb1
      go_wp2_with fail
      refine (hm.out w1 hbw1).mono ?_
      rintro e w2 ⟨st, en, rfl, hb2, hse, hen, hm1, hm2⟩
      have hbw2 := hbw1.trans (hb2.mono hbw1.size)
      have k02 : w2.cell? ⟨w.heap.size, 0, none⟩ = some (.int .u32 (f : Nat)) := (hb2.cell (p := ⟨w.heap.size, 0, none⟩) hsz).trans k0
      have k12 : w2.cell? ⟨w.heap.size, 1, none⟩ = some (.int .u32 (t : Nat)) := (hb2.cell (p := ⟨w.heap.size, 1, none⟩) hsz).trans k1
      have hsz2 : w.heap.size < w2.heap.size := by have := hb2.size; omega
      have HM := Lib.hid (And.intro hm1 hm2)
      have hseI : (st : Int) ≤ (en : Int) := by omega
      have henI : (en : Int) ≤ (c : Int) := by omega
      clear hm1 hm2 k0 k1 hb2
      go_wp2_with fail
      have hmid := Lib.hid (fun W B (hb' : Below w.heap.size w W) (hs : ShowsG spanC W B (.slice (some ⟨B, 0, none⟩) 1 1) [(f, t)]) => combined_any _ (some ⟨B, 0, none⟩) (en - st) 1 (en - st) 1 d B mode g ((l.take en).drop st) [(f, t)] W (by have := HN.out; simp; omega) rfl (shows_mid (HL.out.below' hb' (Nat.le_refl _)) hse hen) hs
        (fun s hs => HX.out.2 s (List.mem_of_mem_take (List.mem_of_mem_drop hs))) (fun s hs => by obtain rfl := List.mem_singleton.1 hs; exact ⟨hf, ht⟩) (by omega) (by omega) (canon_drop (canon_take HX.out.1 en) st) ⟨Nat.zero_le _, hft, trivial⟩ hk eg)
      go_region_with ((go_at_call 47; refine (hmid.out _ _ (by exact (hbw2.alloc hbw2.size _).drew) (by exact (ShowsG.lit (C := spanC) [(f, t)] (by simp [Code.all, pairC]) (by simp [maxLen])).drew)).mono ?_; rintro e w3 ⟨v, r, rfl, ho, g1, g2, g3, g4, hb3⟩; generalize (if en = st then A else Option.map (fun x => x.add (st * 2)) A) = A9))
      have HG := Lib.hid (And.intro g1 (And.intro g2 (And.intro g3 g4)))
      have hx2 := hbw2.size
      have hbw3 : Below w.heap.size w w3 := hbw2.trans (((Below.refl _ _).alloc hx2 _).drew.trans (hb3.mono (by simp; omega)))
      have ho3 := ho.mono (b' := w.heap.size) (by simp; omega)
      have hlr := g4
      obtain ⟨A4, c4, rfl, h41, h42⟩ := ho3.form
      obtain ⟨g4', hg41, hg42⟩ := ho3.shows
      have HO := Lib.hid hg42
      obtain ⟨ps, hps⟩ : ∃ ps : List Part, ps = [(A, st, d, l.take st), (A4, c4, g4', r), (if n = en then A else Option.map (fun x => x.add (en * 2)) A, n - en, d, l.drop en)] := ⟨_, rfl⟩
      have hln := HN.out
      have e1 : (l.take st).length = st := by simp; omega
      have e2 : (l.drop en).length = n - en := by simp; omega
      have hP : ShowsG partC (w3.alloc (.cells #[.slice A st st, .slice A4 r.length c4, .slice (if n = en then A else Option.map (fun x => x.add (en * 2)) A) (n - en) (n - en)] 22)).drew w3.heap.size (.slice (some ⟨w3.heap.size, 0, none⟩) 3 3) ps := by
        rw [hps]
        exact (ShowsG.lit (C := partC) [(A, st, d, l.take st), (A4, c4, g4', r), (if n = en then A else Option.map (fun x => x.add (en * 2)) A, n - en, d, l.drop en)] (by simp only [Code.all, partC, List.flatMap_cons, List.flatMap_nil, e1, e2]; rfl) (by simp [maxLen])).drew
      have hx3 := hbw3.size
      have hbx3 : Below w3.heap.size w3 (w3.alloc (.cells #[.slice A st st, .slice A4 r.length c4, .slice (if n = en then A else Option.map (fun x => x.add (en * 2)) A) (n - en) (n - en)] 22)).drew := ((Below.refl _ _).alloc (Nat.le_refl _) _).drew
      have hAll : ∀ p ∈ ps, ShowsG spanC (w3.alloc (.cells #[.slice A st st, .slice A4 r.length c4, .slice (if n = en then A else Option.map (fun x => x.add (en * 2)) A) (n - en) (n - en)] 22)).drew p.2.2.1 (.slice p.1 p.2.2.2.length p.2.1) p.2.2.2 := by
        subst hps
        intro p hp
        refine ShowsG.below' (w0 := w3) ?_ hbx3 (Nat.le_refl _)
        have hl3 := HL.out.below' hbw3 (Nat.le_refl _)
        simp only [List.mem_cons, List.not_mem_nil, or_false] at hp
        rcases hp with rfl | rfl | rfl
        · show ShowsG spanC w3 d (.slice A (l.take st).length st) (l.take st)
          rw [e1]
          exact hl3.head' (by omega) (Nat.le_refl _) (by omega)
        · exact HO.out
        · show ShowsG spanC w3 d (.slice _ (l.drop en).length (n - en)) (l.drop en)
          rw [e2]
          exact hl3.tail' (by omega) _ (fun h => by rw [if_neg (by omega)]; rfl) (Nat.le_refl _) (by unfold maxLen; omega)
      have hcat : cat ps = l.take st ++ r ++ l.drop en := by subst hps; simp [cat]
      have hlc : (cat ps).length ≤ 17592186044416 := by rw [hcat]; simp; omega
      have hlr2 : r.length ≤ 2 * (((l.take en).drop st).length + 1) := by
        have h9 : ((l.take en).drop st).length = en - st := by simp; omega
        rw [h9]
        exact hlr
      have HP := Lib.hid hP
      have HAll := Lib.hid hAll
      have HCat := Lib.hid hcat
      have HBX := Lib.hid hbx3
      have HFin := Lib.hid (changed_facts HX.out.1 HX.out.2 hmode hft hse (by omega) HM.out.1 HM.out.2 HG.out.1 HG.out.2.1 HG.out.2.2.1 hlr2)
      clear hps e1 e2 hP hAll hcat hbx3 hlr2
      have hnI : (n : Int) ≤ (c : Int) := by omega
      have hstI : (st : Int) ≤ (c : Int) := by omega
      have hennI : (en : Int) ≤ (n : Int) := by omega
      clear g1 g2 g3 g4 ho hb3 ho3 hg42 hmid
      go_wp2_with fail
      go_region_with ((go_at_call 48; refine (concat_any _ 3 3 w3.heap.size ps _ (by exact HP.out.lens.1) (by exact HP.out) (by exact HAll.out) hlc).mono ?_; rintro e w4 ⟨v4, rfl, ho4, hb4⟩; generalize (if n = en then A else Option.map (fun x => x.add (en * 2)) A) = A8 at *))
      go_wp2_with fail
      go_ret2
      have hbw4 : Below w.heap.size w w4 := hbw3.trans ((HBX.out.mono hx3).trans (hb4.mono (by simp; omega)))
      rw [HCat.out] at ho4
      refine ⟨_, _, _, rfl, ho4.mono (by simp; omega), hbw4, .inl ⟨HX.out.1, hft, rfl, HFin.out.1, HFin.out.2.1, HFin.out.2.2.1, ?_⟩⟩
      have h9 := HFin.out.2.2.2
      rw [hln] at h9
      exact h9
    · have hftI : (t : Int) < (f : Int) := by omega
      have HA := Lib.hid ha
      have HB := Lib.hid hbx
      clear ha hl hu hn hbx
      go_enter Try.func31, Try.ntmps31
      go_wp2_with fail
      refine (hr.out _ HB.out).mono ?_
      rintro e w1 ⟨rfl, hb1⟩
      have hbw1 := HB.out.trans (hb1.mono (by simp))
      have k0 : w1.cell? ⟨w.heap.size, 0, none⟩ = some (.int .u32 (f : Nat)) := (hb1.cell (p := ⟨w.heap.size, 0, none⟩) (by simp)).trans (cell_of_row _ _ 0 _ 37 (0, 0) (heap_alloc_new w _))
      have k1 : w1.cell? ⟨w.heap.size, 1, none⟩ = some (.int .u32 (t : Nat)) := (hb1.cell (p := ⟨w.heap.size, 1, none⟩) (by simp)).trans (cell_of_row _ _ 1 _ 37 (0, 0) (heap_alloc_new w _))
      clear hb1
      go_wp2_with fail
      go_ret2
      exact ⟨_, _, [], rfl, OwnG.nil_ _ _ _ _, hbw1, .inr (.inr ⟨HA.out, hft, rfl, rfl, rfl⟩)⟩
  · rw [show decide (canon l) = false by simpa using ha] at hr
    have HA := Lib.hid ha
    have HB := Lib.hid hbx
    clear ha hl hu hn hbx
    go_enter Try.func31, Try.ntmps31
    go_wp2_with fail
    refine (hr.out _ HB.out).mono ?_
    rintro e w1 ⟨rfl, hb1⟩
    have hbw1 := HB.out.trans (hb1.mono (by simp))
    clear hb1
    go_wp2_with fail
    go_ret2
    exact ⟨_, _, [], rfl, OwnG.nil_ _ _ _ _, hbw1, .inr (.inl ⟨HA.out, rfl, rfl, rfl⟩)⟩

theorem add_any (A : Option Addr) (c n d f t : Nat) (l : List Sp) (w : World) (hn : l.length = n) (hl : ShowsG spanC w d (.slice A n c) l) (hu : u32s l) (hb : n ≤ 68719476736) (hf : f < 4294967296) (ht : t < 4294967296) :
    Calls Try.prog 18 #[.slice A n c, .int .u32 f, .int .u32 t] w fun e w' => ∃ v code r, e = .returned (.tuple #[v, .int .i64 code]) ∧ OwnG spanC 37 w' w.heap.size v r ∧ Below w.heap.size w w' ∧ ChangeSaid 1 l n f t v code r := by
  have hc := Lib.hid (changed_any A c n d f t 1 32 l w hn hl hu hb hf ht (.inl rfl) keeps_either (enters_of Try.func32 (by kernel_rfl) rfl))
  clear hn hl hu
  go_enter Try.func18, Try.ntmps18
  go_wp2_with fail
  refine hc.out.mono ?_
  rintro e w1 ⟨v, code, r, rfl, ho, hbw, hs⟩
  go_wp2_with fail
  go_ret2
  exact ⟨_, _, r, rfl, ho, hbw, hs⟩
theorem cut_any (A : Option Addr) (c n d f t : Nat) (l : List Sp) (w : World) (hn : l.length = n) (hl : ShowsG spanC w d (.slice A n c) l) (hu : u32s l) (hb : n ≤ 68719476736) (hf : f < 4294967296) (ht : t < 4294967296) :
    Calls Try.prog 20 #[.slice A n c, .int .u32 f, .int .u32 t] w fun e w' => ∃ v code r, e = .returned (.tuple #[v, .int .i64 code]) ∧ OwnG spanC 37 w' w.heap.size v r ∧ Below w.heap.size w w' ∧ ChangeSaid 2 l n f t v code r := by
  have hc := Lib.hid (changed_any A c n d f t 2 34 l w hn hl hu hb hf ht (.inr rfl) keeps_first (enters_of Try.func34 (by kernel_rfl) rfl))
  clear hn hl hu
  go_enter Try.func20, Try.ntmps20
  go_wp2_with fail
  refine hc.out.mono ?_
  rintro e w1 ⟨v, code, r, rfl, ho, hbw, hs⟩
  go_wp2_with fail
  go_ret2
  exact ⟨_, _, r, rfl, ho, hbw, hs⟩

end Go.Proofs.Ytpchjgeehejkeaa
