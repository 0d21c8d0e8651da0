/-
  Feed of any gatherer; the contract of the law's own head.
  Conditions: none but sizes.
-/
import Derived.Test.YtocankfabgjjmaaGaH
import Derived.Test.YtocankfabgjjmaaGaK
namespace Go.Proofs.Ytocankfabgjjmaa
open Go.RowKit
set_option linter.unusedVariables false
set_option linter.unusedSimpArgs false

/-- Feed of a gatherer, dead or alive. -/
def feedO (o : Option (List (Plc × Pt))) (f : Fr) : Ans × Option (List (Plc × Pt)) :=
  match o with
  | none => (ans0 9, none)
  | some M => feedM M f

theorem feed_any (f : Fr) (w : World) (B gb : Nat) (o : Option (List (Plc × Pt))) (F : Nat → Prop) (hf : f.ok) (hB : B ≤ w.heap.size) (h : GW w B gb o F) :
    Calls Try.prog 7 #[.pointer (some ⟨gb, 0, none⟩), .agg f.vs.toArray] w (FeedSaid w B gb F (feedO o f)) := by
  cases o with
  | none =>
    have h1 := h
    obtain ⟨h2, _, _⟩ := h1
    refine (feed_dead f gb w h2).mono ?_
    rintro e w' ⟨rfl, hb⟩
    exact ⟨.slice none 0 0, F, rfl, OwnG.nil_ _ _ _ _, h.keep fun k hk => hb.block k (h.foot k hk).2, fun k hk => .inl hk, Moved.of_below hb⟩
  | some M =>
    obtain ⟨mb, cs, h1, rfl, rfl⟩ := h
    exact feed_live f w B gb mb cs hf hB h1

def hs1 : Sg := ⟨1, ⟨#[97, 98]⟩⟩
def hs2 : Sg := ⟨3, ⟨#[99]⟩⟩
def hf0 : Fr := ⟨true, false, true, false, 1, 1, 1, ⟨#[97]⟩⟩
def hf1 : Fr := ⟨true, false, false, true, 1, 1, 1, ⟨#[98]⟩⟩
def hf2 : Fr := ⟨false, true, true, true, 3, 1, 1, ⟨#[99]⟩⟩
def hfx : Fr := ⟨false, false, false, false, 3, 1, 0, ⟨#[]⟩⟩

theorem head_cut : cutD 1 1 1 [hs1, hs2] = ([hf0, hf1, hf2], 0) := by
  have e1 : cutP 1 [97, 98] = [[97], [98]] := by
    rw [cutP_more (Nat.le_refl _) (by decide), cutP_end (by decide)]
    rfl
  have e2 : cutP 1 [99] = [[99]] := cutP_end (by decide)
  have h1 : segF 1 1 1 true false hs1 = [hf0, hf1] := by
    unfold segF
    rw [show sb hs1.p = [97, 98] from rfl, e1]
    rfl
  have h2 : segF 1 1 1 false true hs2 = [hf2] := by
    unfold segF
    rw [show sb hs2.p = [99] from rfl, e2]
    rfl
  unfold cutD
  rw [if_neg (by omega), if_neg (by decide)]
  simp only [framesD, Int.toNat_one, List.isEmpty_cons, List.isEmpty_nil, h1, h2]
  rfl
theorem head_f0 : feedM [] hf0 = (ans0 0, some [((1, 1), pt0.add hf0)]) := rfl
theorem head_fx (p : Pt) : feedM [((1, 1), p)] hfx = (ans0 70, none) := rfl

theorem ok_f0 : hf0.ok := ⟨by decide, by decide, by decide, by decide⟩
theorem ok_f1 : hf1.ok := ⟨by decide, by decide, by decide, by decide⟩
theorem ok_fx : hfx.ok := ⟨by decide, by decide, by decide, by decide⟩

theorem head_cells {w : World} {d o c : Nat} (h : ShowsG frC w d (.slice (some ⟨d, o, none⟩) 3 c) [hf0, hf1, hf2]) :
    (w.cell? ⟨d, o, none⟩ = some (.bool true) ∧ w.cell? ⟨d, o + 1, none⟩ = some (.bool false) ∧ w.cell? ⟨d, o + 2, none⟩ = some (.bool true) ∧ w.cell? ⟨d, o + 3, none⟩ = some (.bool false) ∧
      w.cell? ⟨d, o + 4, none⟩ = some (.int .u8 1) ∧ w.cell? ⟨d, o + 5, none⟩ = some (.int .u8 1) ∧ w.cell? ⟨d, o + 6, none⟩ = some (.int .u16 1) ∧ w.cell? ⟨d, o + 7, none⟩ = some (.string ⟨#[97]⟩)) ∧
    (w.cell? ⟨d, o + 8, none⟩ = some (.bool true) ∧ w.cell? ⟨d, o + 8 + 1, none⟩ = some (.bool false) ∧ w.cell? ⟨d, o + 8 + 2, none⟩ = some (.bool false) ∧ w.cell? ⟨d, o + 8 + 3, none⟩ = some (.bool true) ∧
      w.cell? ⟨d, o + 8 + 4, none⟩ = some (.int .u8 1) ∧ w.cell? ⟨d, o + 8 + 5, none⟩ = some (.int .u8 1) ∧ w.cell? ⟨d, o + 8 + 6, none⟩ = some (.int .u16 1) ∧ w.cell? ⟨d, o + 8 + 7, none⟩ = some (.string ⟨#[98]⟩)) ∧
    w.cell? ⟨d, o + 16 + 1, none⟩ = some (.bool true) := by
  obtain ⟨o', e, _, hc⟩ := h.at_ (by decide)
  cases e
  have g0 := fr_cell hc (k := 0) (by decide)
  have g1 := fr_cell hc (k := 1) (by decide)
  have g2 := (fr_cell hc (k := 2) (by decide)).2.1
  exact ⟨g0, g1, g2⟩

set_option maxRecDepth 100000 in
set_option maxHeartbeats 8000000 in
theorem ghead_any (w : World) : Calls Try.prog 6 #[] w fun e w' => e = .returned (.bool true) ∧ Below w.heap.size w w' := by
  have HCUT : ∀ (d c : Nat) (A : Option Addr) (w' : World), ShowsG sgC w' d (.slice A 2 c) [hs1, hs2] → Calls Try.prog 13 #[.agg #[.int .u16 1, .int .u8 1, .slice A 2 c], .int .i64 1] w' fun e w'' => ∃ v, e = .returned (.tuple #[v, .int .i64 0]) ∧ OwnG frC 30 w'' w'.heap.size v [hf0, hf1, hf2] ∧ Below w'.heap.size w' w'' := fun d c A w' h => by
    have := gcut_any 1 1 1 A c d [hs1, hs2] w' h (by decide) (by decide)
    rw [head_cut] at this
    exact this
  have HF0 : ∀ (w' : World) (B gb : Nat) (F : Nat → Prop), B ≤ w'.heap.size → GW w' B gb (some []) F → Calls Try.prog 7 #[.pointer (some ⟨gb, 0, none⟩), .agg #[.bool true, .bool false, .bool true, .bool false, .int .u8 1, .int .u8 1, .int .u16 1, .string ⟨#[97]⟩]] w' fun e w'' =>
      ∃ v F', e = .returned (.tuple #[.agg #[.int .u16 0, .int .u8 0, v], .bool false, .int .i64 0]) ∧ OwnG sgC 46 w'' w'.heap.size v [] ∧ GW w'' B gb (some [((1, 1), pt0.add hf0)]) F' ∧ (∀ k, F' k → F k ∨ w'.heap.size ≤ k) ∧ Moved F w' w'' := fun w' B gb F hB h => feed_any hf0 w' B gb (some []) F ok_f0 hB h
  have HOP : ∀ (w' : World) (B gb : Nat) (F : Nat → Prop), GW w' B gb (some [((1, 1), pt0.add hf0)]) F → Calls Try.prog 10 #[.pointer (some ⟨gb, 0, none⟩)] w' fun e w'' => e = .returned (.int .i64 1) ∧ w'' = w' := fun w' B gb F h => gopen_any w' B gb _ F h
  have HFX : ∀ (w' : World) (B gb : Nat) (F : Nat → Prop), B ≤ w'.heap.size → GW w' B gb (some [((1, 1), pt0.add hf0)]) F → Calls Try.prog 7 #[.pointer (some ⟨gb, 0, none⟩), .agg #[.bool false, .bool false, .bool false, .bool false, .int .u8 3, .int .u8 1, .int .u16 0, .string ⟨#[]⟩]] w' fun e w'' =>
      ∃ v F', e = .returned (.tuple #[.agg #[.int .u16 0, .int .u8 0, v], .bool false, .int .i64 70]) ∧ OwnG sgC 46 w'' w'.heap.size v [] ∧ GW w'' B gb none F' ∧ (∀ k, F' k → F k ∨ w'.heap.size ≤ k) ∧ Moved F w' w'' := fun w' B gb F hB h => feed_any hfx w' B gb _ F ok_fx hB h
  have HF1 : ∀ (w' : World) (B gb : Nat) (F : Nat → Prop), B ≤ w'.heap.size → GW w' B gb none F → Calls Try.prog 7 #[.pointer (some ⟨gb, 0, none⟩), .agg #[.bool true, .bool false, .bool false, .bool true, .int .u8 1, .int .u8 1, .int .u16 1, .string ⟨#[98]⟩]] w' fun e w'' =>
      ∃ v F', e = .returned (.tuple #[.agg #[.int .u16 0, .int .u8 0, v], .bool false, .int .i64 9]) ∧ OwnG sgC 46 w'' w'.heap.size v [] ∧ GW w'' B gb none F' ∧ (∀ k, F' k → F k ∨ w'.heap.size ≤ k) ∧ Moved F w' w'' := fun w' B gb F hB h => feed_any hf1 w' B gb none F ok_f1 hB h
  have HCUT := Lib.hid HCUT
  have HNEW := Lib.hid (fun w' => new_any w')
  have HF0 := Lib.hid HF0
  have HOP := Lib.hid HOP
  have HFX := Lib.hid HFX
  have HF1 := Lib.hid HF1
  go_enter Try.func6, Try.ntmps6
  go_upto_region 2 with fail
  have hlit := ShowsG.lit (C := sgC) (w := w) (e := 46) [hs1, hs2] rfl (by decide)
  have hsh := hlit.below' (f_below_box _ (Obj.cells #[.int .u16 1, .int .u8 1, .slice (some ⟨w.heap.size, 0, none⟩) 2 2] 34)) (Nat.le_refl _)
  have hb2 : Below w.heap.size w _ := (f_below_box w (Obj.cells #[.int .u8 1, .string ⟨#[97, 98]⟩, .int .u8 3, .string ⟨#[99]⟩] 46)).alloc (by simp) (Obj.cells #[.int .u16 1, .int .u8 1, .slice (some ⟨w.heap.size, 0, none⟩) 2 2] 34)
  have HB2 := Lib.hid hb2
  have HSH := Lib.hid hsh
  clear hlit hsh hb2
  go_wp2_with (first
    | (go_at_call 13
       refine (HCUT.out w.heap.size 2 (some ⟨w.heap.size, 0, none⟩) _ HSH.out).mono ?_
       rintro e w3 ⟨v3, rfl, ho3, hb3⟩
       obtain ⟨A3, c3, rfl, _, _⟩ := ho3.form
       have HB3 := Lib.hid (HB2.out.trans (hb3.mono HB2.out.size))
       obtain ⟨d3, hd3, hs3⟩ := ho3.shows
       obtain ⟨o3, rfl, hl3, _⟩ := hs3.at_ (by decide)
       have HS3 := Lib.hid hs3
       clear ho3 hb3 hs3)
    | (go_at_call 5
       refine (HNEW.out _).mono ?_
       rintro e w4 ⟨gb, F, rfl, hg4, hb4⟩
       have HS4 := Lib.hid (HS3.out.below' hb4 (Nat.le_refl _))
       obtain ⟨⟨x0, x1, x2, x3, x4, x5, x6, x7⟩, ⟨y0, y1, y2, y3, y4, y5, y6, y7⟩, z1⟩ := head_cells HS4.out))
  have hw34 := hb4.size
  have hw3 := HB3.out.size
  have hft := hg4.foot
  have HB4 := Lib.hid (HB3.out.trans (hb4.mono hw3))
  clear hb4 x0 x1 x2 x3 x4 x5 x6 x7 y0 y1 y2 y3 y4 y5 y6 y7 z1
  refine (HF0.out w4 w3.heap.size gb F hw34 hg4).mono ?_
  rintro e w5 ⟨v5, F5, rfl, ho5, hg5, hF5, hm5⟩
  obtain ⟨A5, c5, rfl, _, _⟩ := ho5.form
  have hS5 := HS4.out.keep hm5.size fun _ => hm5.block d3 (by omega) (fun h => by have := (hft d3 h).1; omega)
  have HB5 := Lib.hid (hm5.below HB4.out (fun k hk => by have := (hft k hk).1; omega) HB4.out.size)
  have hw45 := hm5.size
  have hft5 := hg5.foot
  have HS5 := Lib.hid hS5
  have HG5 := Lib.hid (fun o => hg5.keep (w' := w5.alloc o) fun k hk => (f_below_box w5 o).block k (hft5 k hk).2)
  clear hS5 hm5 hg4 ho5 hg5
  go_wp2_with (go_at_call 10; refine (HOP.out _ w3.heap.size gb F5 (HG5.out _)).mono ?_; rintro e w6 ⟨rfl, rfl⟩)
  refine (HFX.out _ w3.heap.size gb F5 (by simp; omega) (HG5.out _)).mono ?_
  rintro e w7 ⟨v7, F7, rfl, ho7, hg7, hF7, hm7⟩
  obtain ⟨A7, c7, rfl, _, _⟩ := ho7.form
  have hS5a := HS5.out.below' (f_below_box w5 (Obj.cells #[.int .u16 0, .int .u8 0, .slice A5 0 c5] 34)) (Nat.le_refl _)
  have hd5 : ¬ F5 d3 := fun h => by
    rcases hF5 d3 h with h | h
    · have := (hft d3 h).1; omega
    · omega
  have hS7 := hS5a.keep hm7.size fun _ => hm7.block d3 (by simp; omega) hd5
  have hf5w : ∀ k, F5 k → w.heap.size ≤ k := fun k hk => by have := (hft5 k hk).1; omega
  have HB7 := Lib.hid (hm7.below (HB5.out.alloc (by omega) _) hf5w (by simp; omega))
  have hw57 := hm7.size
  have hft7 := hg7.foot
  have HG7 := Lib.hid (fun o => hg7.keep (w' := w7.alloc o) fun k hk => (f_below_box w7 o).block k (hft7 k hk).2)
  have hS7a := hS7.below' (f_below_box w7 (Obj.cells #[.int .u16 0, .int .u8 0, .slice A7 0 c7] 34)) (Nat.le_refl _)
  obtain ⟨_, ⟨y0, y1, y2, y3, y4, y5, y6, y7⟩, _⟩ := head_cells hS7a
  rw [World.size_alloc] at hw57
  clear hS5a hS7 hS7a hm7 ho7 hg7 hd5
  go_wp2_with fail
  refine (HF1.out _ w3.heap.size gb F7 (by simp; omega) (HG7.out _)).mono ?_
  rintro e w9 ⟨v9, F9, rfl, ho9, hg9, hF9, hm9⟩
  obtain ⟨A9, c9, rfl, _, _⟩ := ho9.form
  have hf7w : ∀ k, F7 k → w.heap.size ≤ k := fun k hk => by have := (hft7 k hk).1; omega
  have HB9 := Lib.hid (hm9.below (HB7.out.alloc (by omega) _) hf7w (by simp; omega))
  clear y0 y1 y2 y3 y4 y5 y6 y7 hm9 ho9 hg9
  go_wp2_with fail
  go_ret
  exact ⟨rfl, HB9.out.alloc HB9.out.size _⟩

end Go.Proofs.Ytocankfabgjjmaa
