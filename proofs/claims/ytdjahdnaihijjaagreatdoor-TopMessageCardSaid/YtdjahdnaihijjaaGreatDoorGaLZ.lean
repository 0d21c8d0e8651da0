/-
  Texts, together: GaL, GaU, GaV.
  Conditions: none but sizes.
-/
import Derived.Test.YtdjahdnaihijjaaGreatDoorGaFZ
import Derived.Test.YtdjahdnaihijjaaGreatDoorGaKZ
/-
  Feed of any gatherer; the contract of the law's own head.
  Conditions: none but sizes.
-/
namespace Go.Proofs.YtdjahdnaihijjaaGreatDoor
open Go.RowKit
set_option linter.unusedVariables false
set_option linter.unusedSimpArgs false

/-- Feed of a gatherer, dead or alive. -/
def feedO (o : Option (List (Plc × Pt))) (f : Fr) : Ans × Option (List (Plc × Pt)) :=
  match o with
  | none => (ans0 9, none)
  | some M => feedM M f

theorem feed_any (f : Fr) (w : World) (B gb : Nat) (o : Option (List (Plc × Pt))) (F : Nat → Prop) (hf : f.ok) (hB : B ≤ w.heap.size) (h : GW w B gb o F) :
    Calls Tryz.prog 9 #[.pointer (some ⟨gb, 0, none⟩), .agg f.vs.toArray] w (FeedSaid w B gb F (feedO o f)) := by
  cases o with
  | none =>
    have h1 := h
    obtain ⟨h2, _, _⟩ := h1
    refine (feed_dead f gb w h2).mono ?_
    rintro e w' ⟨rfl, hb⟩
    exact ⟨.slice none 0 0, F, rfl, OwnG.nil_ _ _ _ _, h.keep fun k hk => hb.block k (h.foot k hk).2, fun k hk => .inl hk, Moved.of_below hb⟩
  | some M =>
    obtain ⟨mb, cs, h1, rfl, rfl⟩ := h
    exact feed_live f w B gb mb cs hf hB h1

def hs1 : Sg := ⟨1, ⟨#[97, 98]⟩⟩
def hs2 : Sg := ⟨3, ⟨#[99]⟩⟩
def hf0 : Fr := ⟨true, false, true, false, 1, 1, 1, ⟨#[97]⟩⟩
def hf1 : Fr := ⟨true, false, false, true, 1, 1, 1, ⟨#[98]⟩⟩
def hf2 : Fr := ⟨false, true, true, true, 3, 1, 1, ⟨#[99]⟩⟩
def hfx : Fr := ⟨false, false, false, false, 3, 1, 0, ⟨#[]⟩⟩

theorem head_cut : cutD 1 1 1 [hs1, hs2] = ([hf0, hf1, hf2], 0) := by
  have e1 : cutP 1 [97, 98] = [[97], [98]] := by
    rw [cutP_more (Nat.le_refl _) (by decide), cutP_end (by decide)]
    rfl
  have e2 : cutP 1 [99] = [[99]] := cutP_end (by decide)
  have h1 : segF 1 1 1 true false hs1 = [hf0, hf1] := by
    unfold segF
    rw [show sb hs1.p = [97, 98] from rfl, e1]
    rfl
  have h2 : segF 1 1 1 false true hs2 = [hf2] := by
    unfold segF
    rw [show sb hs2.p = [99] from rfl, e2]
    rfl
  unfold cutD
  rw [if_neg (by omega), if_neg (by decide)]
  simp only [framesD, Int.toNat_one, List.isEmpty_cons, List.isEmpty_nil, h1, h2]
  rfl
theorem head_f0 : feedM [] hf0 = (ans0 0, some [((1, 1), pt0.add hf0)]) := rfl
theorem head_fx (p : Pt) : feedM [((1, 1), p)] hfx = (ans0 70, none) := rfl

theorem ok_f0 : hf0.ok := ⟨by decide, by decide, by decide, by decide⟩
theorem ok_f1 : hf1.ok := ⟨by decide, by decide, by decide, by decide⟩
theorem ok_fx : hfx.ok := ⟨by decide, by decide, by decide, by decide⟩

theorem head_cells {w : World} {d o c : Nat} (h : ShowsG frC w d (.slice (some ⟨d, o, none⟩) 3 c) [hf0, hf1, hf2]) :
    (w.cell? ⟨d, o, none⟩ = some (.bool true) ∧ w.cell? ⟨d, o + 1, none⟩ = some (.bool false) ∧ w.cell? ⟨d, o + 2, none⟩ = some (.bool true) ∧ w.cell? ⟨d, o + 3, none⟩ = some (.bool false) ∧
      w.cell? ⟨d, o + 4, none⟩ = some (.int .u8 1) ∧ w.cell? ⟨d, o + 5, none⟩ = some (.int .u8 1) ∧ w.cell? ⟨d, o + 6, none⟩ = some (.int .u16 1) ∧ w.cell? ⟨d, o + 7, none⟩ = some (.string ⟨#[97]⟩)) ∧
    (w.cell? ⟨d, o + 8, none⟩ = some (.bool true) ∧ w.cell? ⟨d, o + 8 + 1, none⟩ = some (.bool false) ∧ w.cell? ⟨d, o + 8 + 2, none⟩ = some (.bool false) ∧ w.cell? ⟨d, o + 8 + 3, none⟩ = some (.bool true) ∧
      w.cell? ⟨d, o + 8 + 4, none⟩ = some (.int .u8 1) ∧ w.cell? ⟨d, o + 8 + 5, none⟩ = some (.int .u8 1) ∧ w.cell? ⟨d, o + 8 + 6, none⟩ = some (.int .u16 1) ∧ w.cell? ⟨d, o + 8 + 7, none⟩ = some (.string ⟨#[98]⟩)) ∧
    w.cell? ⟨d, o + 16 + 1, none⟩ = some (.bool true) := by
  obtain ⟨o', e, _, hc⟩ := h.at_ (by decide)
  cases e
  have g0 := fr_cell hc (k := 0) (by decide)
  have g1 := fr_cell hc (k := 1) (by decide)
  have g2 := (fr_cell hc (k := 2) (by decide)).2.1
  exact ⟨g0, g1, g2⟩

end Go.Proofs.YtdjahdnaihijjaaGreatDoor
/-
  Without the program: the frames of an assembly that may be, fed one behind the other, make it, at the last one; and what a frame completes may be.
  Conditions: none.
-/
namespace Go.Proofs.YtdjahdnaihijjaaGreatDoor
open Go.RowKit
set_option linter.unusedVariables false
set_option linter.unusedSimpArgs false

/-- These frames are taken, one behind the other, from o on, and the last one, no other, completes segments A. -/
def runAll : Option Pt → List Fr → List Sg → Prop
  | _, [], _ => False
  | o, [f], A => refusedD f o = 0 ∧ f.b = true ∧ f.d = true ∧ wholeD ((o.getD pt0).add f).bytes ((o.getD pt0).add f).segs = A
  | o, f :: g :: r, A => refusedD f o = 0 ∧ ¬ (f.b = true ∧ f.d = true) ∧ runAll (some ((o.getD pt0).add f)) (g :: r) A

theorem runAll_cons {o : Option Pt} {f : Fr} {r : List Fr} {A : List Sg} (hr : r ≠ []) (h1 : refusedD f o = 0) (h2 : ¬ (f.b = true ∧ f.d = true)) (h3 : runAll (some ((o.getD pt0).add f)) r A) : runAll o (f :: r) A := by
  cases r with
  | nil => exact absurd rfl hr
  | cons g r => exact ⟨h1, h2, h3⟩

theorem refused_ok {f : Fr} {o : Option Pt} (h1 : f.t ≤ 3) (h2 : f.k ≤ 15) (h3 : f.p.size ≤ 4084) (h4 : fitsD f o = true) (h5 : (o.getD pt0).bytes.length + f.p.size ≤ 16384) : refusedD f o = 0 := by
  unfold refusedD checkF
  rw [if_neg (by rw [if_neg (by omega)]; omega), if_neg (by simp [h4]), if_neg (by omega)]

def g_lenL (xs : List (List UInt8)) : Nat := xs.flatten.length
theorem lenL_cons (x : List UInt8) (xs : List (List UInt8)) : g_lenL (x :: xs) = x.length + g_lenL xs := by simp [g_lenL]

theorem str8_sz (x : List UInt8) : (str8 x).size = x.length := str8_size x

/-- Fits does not look at End and the payload. -/
theorem fits_same (a b c d d' : Bool) (t k ch : Nat) (p p' : ByteArray) (o : Option Pt) : fitsD ⟨a, b, c, d, t, k, ch, p⟩ o = fitsD ⟨a, b, c, d', t, k, ch, p'⟩ o := by cases o <;> rfl

theorem add_head (p : Pt) (a b c d : Bool) (t k ch : Nat) (x : ByteArray) (h : c = false → p.head.t = t ∧ p.head.a = a ∧ p.head.b = b) :
    (p.add ⟨a, b, c, d, t, k, ch, x⟩).head.t = t ∧ (p.add ⟨a, b, c, d, t, k, ch, x⟩).head.a = a ∧ (p.add ⟨a, b, c, d, t, k, ch, x⟩).head.b = b := by
  cases c with
  | true => simp [Pt.add]
  | false => simpa [Pt.add] using h rfl

/-- The pieces of a segment that is not the last one. -/
theorem run_pieces (a : Bool) (t k ch : Nat) (rest : List Fr) (A : List Sg) (hrest : rest ≠ []) (ht : t ≤ 3) (hk : k ≤ 15) : ∀ (xs : List (List UInt8)) (c : Bool) (o : Option Pt), xs ≠ [] →
    (∀ x ∈ xs, x.length ≤ 4084) → (o.getD pt0).bytes.length + g_lenL xs ≤ 16384 → (∀ d p, fitsD ⟨a, false, c, d, t, k, ch, p⟩ o = true) → (c = false → (o.getD pt0).head.t = t ∧ (o.getD pt0).head.a = a ∧ (o.getD pt0).head.b = false) →
    (∀ P : Pt, P.segs = (o.getD pt0).segs ++ (if c = true then [(t, (o.getD pt0).bytes.length)] else []) → P.bytes = (o.getD pt0).bytes ++ xs.flatten → P.whole = true → P.head.t = t → P.head.b = false → runAll (some P) rest A) →
    runAll o (pieceF a false t k ch c xs ++ rest) A
  | [], _, _, h, _, _, _, _, _ => absurd rfl h
  | [x], c, o, _, hx, hl, hf, hh, hend => by
    rw [lenL_cons] at hl
    have hxl := hx x (by simp)
    refine runAll_cons hrest (refused_ok ht hk (by show (str8 x).size ≤ _; rw [str8_sz]; exact hxl) (hf _ _) (by show _ + (str8 x).size ≤ _; rw [str8_sz]; omega)) (by simp) ?_
    obtain ⟨h1, h2, h3⟩ := add_head (o.getD pt0) a false c true t k ch (str8 x) hh
    refine hend _ ?_ ?_ rfl h1 h3
    · cases c <;> simp [Pt.add]
    · simp [Pt.add, sb_str8]
  | x :: y :: r, c, o, _, hx, hl, hf, hh, hend => by
    rw [lenL_cons] at hl
    have hxl := hx x (by simp)
    obtain ⟨h1, h2, h3⟩ := add_head (o.getD pt0) a false c false t k ch (str8 x) hh
    have hb : ((o.getD pt0).add ⟨a, false, c, false, t, k, ch, str8 x⟩).bytes = (o.getD pt0).bytes ++ x := by simp [Pt.add, sb_str8]
    refine runAll_cons (by intro h; exact hrest (List.append_eq_nil_iff.1 h).2) (refused_ok ht hk (by show (str8 x).size ≤ _; rw [str8_sz]; exact hxl) (hf _ _) (by show _ + (str8 x).size ≤ _; rw [str8_sz]; omega)) (by simp) ?_
    refine run_pieces a t k ch rest A hrest ht hk (y :: r) false _ (by simp) (fun z hz => hx z (by simp at hz ⊢; exact .inr hz)) ?_ (fun d p => ?_) (fun _ => ⟨h1, h2, h3⟩) fun P hs hb' hw ht' hb2 => ?_
    · simp only [Option.getD_some, hb, List.length_append]; omega
    · simp only [fitsD]
      have hw : ((o.getD pt0).add ⟨a, false, c, false, t, k, ch, str8 x⟩).whole = false := rfl
      simp [hw, h1, h2, h3]
    · refine hend P ?_ ?_ hw ht' hb2
      · rw [hs]
        cases c <;> simp [Pt.add]
      · rw [hb']
        simp only [Option.getD_some, hb]
        simp

/-- The pieces of the last segment. -/
theorem run_last (a : Bool) (t k ch : Nat) (A : List Sg) (ht : t ≤ 3) (hk : k ≤ 15) : ∀ (xs : List (List UInt8)) (c : Bool) (o : Option Pt), xs ≠ [] →
    (∀ x ∈ xs, x.length ≤ 4084) → (o.getD pt0).bytes.length + g_lenL xs ≤ 16384 → (∀ d p, fitsD ⟨a, true, c, d, t, k, ch, p⟩ o = true) → (c = false → (o.getD pt0).head.t = t ∧ (o.getD pt0).head.a = a ∧ (o.getD pt0).head.b = true) →
    wholeD ((o.getD pt0).bytes ++ xs.flatten) ((o.getD pt0).segs ++ (if c = true then [(t, (o.getD pt0).bytes.length)] else [])) = A →
    runAll o (pieceF a true t k ch c xs) A
  | [], _, _, h, _, _, _, _, _ => absurd rfl h
  | [x], c, o, _, hx, hl, hf, hh, hend => by
    rw [lenL_cons] at hl
    have hxl := hx x (by simp)
    refine ⟨refused_ok ht hk (by show (str8 x).size ≤ _; rw [str8_sz]; exact hxl) (hf _ _) (by show _ + (str8 x).size ≤ _; rw [str8_sz]; omega), rfl, rfl, ?_⟩
    rw [← hend]
    cases c <;> simp [Pt.add, sb_str8]
  | x :: y :: r, c, o, _, hx, hl, hf, hh, hend => by
    rw [lenL_cons] at hl
    have hxl := hx x (by simp)
    obtain ⟨h1, h2, h3⟩ := add_head (o.getD pt0) a true c false t k ch (str8 x) hh
    have hb : ((o.getD pt0).add ⟨a, true, c, false, t, k, ch, str8 x⟩).bytes = (o.getD pt0).bytes ++ x := by simp [Pt.add, sb_str8]
    have hne : pieceF a true t k ch false (y :: r) ≠ [] := by cases r <;> simp [pieceF]
    refine runAll_cons hne (refused_ok ht hk (by show (str8 x).size ≤ _; rw [str8_sz]; exact hxl) (hf _ _) (by show _ + (str8 x).size ≤ _; rw [str8_sz]; omega)) (by simp) ?_
    refine run_last a t k ch A ht hk (y :: r) false _ (by simp) (fun z hz => hx z (by simp at hz ⊢; exact .inr hz)) ?_ (fun d p => ?_) (fun _ => ⟨h1, h2, h3⟩) ?_
    · simp only [Option.getD_some, hb, List.length_append]; omega
    · simp only [fitsD]
      have hw : ((o.getD pt0).add ⟨a, true, c, false, t, k, ch, str8 x⟩).whole = false := rfl
      simp [hw, h1, h2, h3]
    · rw [← hend]
      simp only [Option.getD_some, hb]
      cases c <;> simp [Pt.add]

theorem cutP_flat {n : Nat} (hn : 1 ≤ n) : ∀ (m : Nat) (l : List UInt8), l.length ≤ m → (cutP n l).flatten = l ∧ ∀ x ∈ cutP n l, x.length ≤ n
  | 0, l, h => by rw [cutP_end (by omega)]; simp; omega
  | m + 1, l, h => by
    by_cases h2 : l.length ≤ n
    · rw [cutP_end h2]; simp; exact h2
    · rw [cutP_more hn (by omega)]
      obtain ⟨h3, h4⟩ := cutP_flat hn m (l.drop n) (by rw [List.length_drop]; omega)
      refine ⟨by rw [List.flatten_cons, h3, List.take_append_drop], fun x hx => ?_⟩
      rcases List.mem_cons.1 hx with rfl | hx
      · simp; omega
      · exact h4 x hx

/-- Where the segments begin, and all their bytes. -/
def fromsD (i : Nat) : List Sg → List (Nat × Nat)
  | [] => []
  | s :: r => (s.t, i) :: fromsD (i + s.p.size) r
def catD : List Sg → List UInt8
  | [] => []
  | s :: r => sb s.p ++ catD r
theorem catD_len : ∀ l : List Sg, (catD l).length = sumS l
  | [] => rfl
  | s :: r => by simp [catD, sumS, sb_length, catD_len r]
theorem catD_snoc : ∀ (l : List Sg) (s : Sg), catD (l ++ [s]) = catD l ++ sb s.p
  | [], s => by simp [catD]
  | x :: r, s => by simp [catD, catD_snoc r s]
theorem fromsD_snoc : ∀ (i : Nat) (l : List Sg) (s : Sg), fromsD i (l ++ [s]) = fromsD i l ++ [(s.t, i + sumS l)]
  | i, [], s => by simp [fromsD, sumS]
  | i, x :: r, s => by simp [fromsD, fromsD_snoc (i + x.p.size) r s, sumS]; omega
theorem whole_froms (bytes : List UInt8) : ∀ (S : List Sg) (i : Nat), bytes.drop i = catD S → wholeD bytes (fromsD i S) = S
  | [], _, _ => rfl
  | [s], i, h => by
    simp only [fromsD, wholeD, h, catD, List.append_nil, str8_sb]
  | s :: q :: r, i, h => by
    have h1 : bytes.drop (i + s.p.size) = catD (q :: r) := by
      rw [← List.drop_drop, h]
      simp only [catD]
      rw [List.drop_left' (sb_length _)]
    have h2 := whole_froms bytes (q :: r) (i + s.p.size) h1
    have h3 : (bytes.take (i + s.p.size)).drop i = sb s.p := by
      rw [List.drop_take, Nat.add_sub_cancel_left, h]
      simp only [catD]
      rw [List.take_left' (sb_length _)]
    simp only [fromsD, wholeD] at h2 ⊢
    rw [h3, str8_sb, h2]

/-- What is open behind the segments D that are whole. -/
def Behind (D : List Sg) : Option Pt → Prop
  | none => D = []
  | some P => D ≠ [] ∧ P.segs = fromsD 0 D ∧ P.bytes = catD D ∧ P.whole = true

theorem behind_get {D : List Sg} {o : Option Pt} (h : Behind D o) : (o.getD pt0).segs = fromsD 0 D ∧ (o.getD pt0).bytes = catD D := by
  cases o with
  | none => obtain rfl : D = [] := h; exact ⟨rfl, rfl⟩
  | some P => exact ⟨h.2.1, h.2.2.1⟩

theorem run_frames {n : Nat} (hn : 1 ≤ n) (hn2 : n ≤ 4084) (k ch : Nat) (hk : k ≤ 15) : ∀ (R D : List Sg) (o : Option Pt), R ≠ [] → Behind D o → sumS D + sumS R ≤ 16384 →
    (match o with | none => typesD k R = true | some P => k ≠ 0 ∧ risesD P.head.t R = true) → runAll o (framesD n k ch (D.isEmpty) R) (D ++ R)
  | [], _, _, h, _, _, _ => absurd rfl h
  | s :: R', D, o, _, hb, hsum, hty => by
    obtain ⟨hg1, hg2⟩ := behind_get hb
    obtain ⟨hfl, hxl⟩ := cutP_flat hn _ (sb s.p) (Nat.le_refl _)
    simp only [sumS] at hsum
    have hsum2 : (o.getD pt0).bytes.length + g_lenL (cutP n (sb s.p)) ≤ 16384 := by
      rw [hg2, catD_len, g_lenL, hfl, sb_length]; omega
    have hx4 : ∀ x ∈ cutP n (sb s.p), x.length ≤ 4084 := fun x hx => Nat.le_trans (hxl x hx) hn2
    have hne := cutP_ne n (sb s.p)
    have hde : D.isEmpty = o.isNone := by
      cases o with
      | none => obtain rfl : D = [] := hb; rfl
      | some P => have h := hb.1; cases D <;> simp_all
    -- the type, and that it fits
    have hfit : s.t ≤ 3 ∧ ∀ d p, fitsD ⟨D.isEmpty, R'.isEmpty, true, d, s.t, k, ch, p⟩ o = true := by
      cases o with
      | none =>
        simp only [typesD, Bool.and_eq_true] at hty
        obtain ⟨h1, h2⟩ := hty
        have h3 : s.t ≤ 3 := by
          unfold firstD at h1
          split at h1
          · simp at h1; omega
          · split at h1
            · simp at h1; omega
            · cases h1
        refine ⟨h3, fun d p => ?_⟩
        rw [hde]
        simp only [fitsD, h1, Option.isNone_none, Bool.true_and, Bool.and_true]
        by_cases hk0 : k = 0
        · rw [if_pos hk0] at h2
          simp [h2]
        · simp [hk0]
      | some P =>
        obtain ⟨hk0, h2⟩ := hty
        simp only [risesD, Bool.and_eq_true, decide_eq_true_eq] at h2
        refine ⟨h2.1.2, fun d p => ?_⟩
        rw [hde]
        have hw := hb.2.2.2
        simp [fitsD, hw, h2.1.1]
    obtain ⟨ht, hfit⟩ := hfit
    simp only [framesD, segF]
    cases R' with
    | nil =>
      simp only [framesD, List.append_nil, List.isEmpty_nil] at hfit ⊢
      refine run_last _ _ _ _ _ ht hk _ true o hne hx4 hsum2 hfit (fun h => by cases h) ?_
      rw [hg1, hg2, hfl, if_pos rfl, catD_len]
      have e1 := fromsD_snoc 0 D s
      rw [Nat.zero_add] at e1
      rw [← e1, ← catD_snoc]
      exact whole_froms _ _ 0 rfl
    | cons q R2 =>
      simp only [List.isEmpty_cons] at hfit ⊢
      refine run_pieces _ _ _ _ _ _ ?_ ht hk _ true o hne hx4 hsum2 hfit (fun h => by cases h) fun P hs hb' hw ht' hb2 => ?_
      · simp only [framesD, segF]
        intro h
        have := congrArg List.length h
        rw [List.length_append, pieceF_len] at this
        have hc := cutP_ne n (sb q.p)
        cases hq : cutP n (sb q.p) with
        | nil => exact hc hq
        | cons y z => rw [hq] at this; simp at this
      · have hB : Behind (D ++ [s]) (some P) := by
          refine ⟨by simp, ?_, ?_, hw⟩
          · rw [hs, hg1, hg2, if_pos rfl, catD_len, fromsD_snoc, Nat.zero_add]
          · rw [hb', hg2, hfl, catD_snoc]
        have hsD : sumS (D ++ [s]) = sumS D + s.p.size := by rw [← catD_len, catD_snoc, List.length_append, catD_len, sb_length]
        have := run_frames hn hn2 k ch hk (q :: R2) (D ++ [s]) (some P) (by simp) hB (by rw [hsD]; omega) (by
          simp only
          rw [ht']
          cases o with
          | none =>
            simp only [typesD, Bool.and_eq_true] at hty
            obtain ⟨h1, h2⟩ := hty
            by_cases hk0 : k = 0
            · rw [if_pos hk0] at h2
              simp at h2
            · rw [if_neg hk0] at h2
              exact ⟨hk0, h2⟩
          | some P0 =>
            obtain ⟨hk0, h2⟩ := hty
            simp only [risesD, Bool.and_eq_true] at h2
            exact ⟨hk0, by simp only [risesD, Bool.and_eq_true]; exact h2.2⟩)
        have e : (D ++ [s]).isEmpty = false := by simp
        rw [e] at this
        simpa using this

/-- The frames of an assembly that may be. -/
theorem run_cut {n : Nat} (hn : 1 ≤ n) (hn2 : n ≤ 4084) {k : Nat} (ch : Nat) {l : List Sg} (h : checkA k l = 0) : runAll none (framesD n k ch true l) l := by
  obtain ⟨ht, hs⟩ := checkA_zero h
  have hne : l ≠ [] := by rintro rfl; cases ht
  have hk : k ≤ 15 := by
    cases l with
    | nil => exact absurd rfl hne
    | cons s r =>
      simp only [typesD, Bool.and_eq_true] at ht
      have := ht.1
      unfold firstD at this
      split at this
      · omega
      · split at this
        · omega
        · cases this
  have := run_frames hn hn2 k ch hk l [] none hne rfl (by simp [sumS]; exact hs) ht
  simpa using this

end Go.Proofs.YtdjahdnaihijjaaGreatDoor
/-
  Without the program: what a frame completes may be; a gatherer that is fed the frames of one assembly alone.
  Conditions: none.
-/
namespace Go.Proofs.YtdjahdnaihijjaaGreatDoor
open Go.RowKit
set_option linter.unusedVariables false
set_option linter.unusedSimpArgs false

theorem rises_map : ∀ (l m : List Sg) (x : Nat), l.map Sg.t = m.map Sg.t → risesD x l = risesD x m
  | [], [], _, _ => rfl
  | [], _ :: _, _, h => by simp at h
  | _ :: _, [], _, h => by simp at h
  | a :: l, b :: m, x, h => by
    simp only [List.map_cons, List.cons.injEq] at h
    simp only [risesD, h.1, rises_map l m b.t h.2]
theorem types_map (k : Nat) : ∀ (l m : List Sg), l.map Sg.t = m.map Sg.t → typesD k l = typesD k m
  | [], [], _ => rfl
  | [], _ :: _, h => by simp at h
  | _ :: _, [], h => by simp at h
  | a :: l, b :: m, h => by
    simp only [List.map_cons, List.cons.injEq] at h
    have he : l.isEmpty = m.isEmpty := by
      have := congrArg List.length h.2
      cases l <;> cases m <;> simp_all
    simp only [typesD, h.1, he, rises_map l m b.t h.2]
theorem rises_snoc (s n : Sg) (h : s.t < n.t ∧ n.t ≤ 3) : ∀ (l : List Sg) (x : Nat), risesD x (l ++ [s]) = true → risesD x (l ++ [s] ++ [n]) = true
  | [], x, h1 => by
    simp only [List.nil_append, List.cons_append, risesD, Bool.and_true, Bool.and_eq_true, decide_eq_true_eq] at h1 ⊢
    exact ⟨h1, h⟩
  | a :: l, x, h1 => by
    simp only [List.cons_append, risesD, Bool.and_eq_true] at h1 ⊢
    exact ⟨h1.1, rises_snoc s n h l a.t h1.2⟩
theorem types_snoc (s n : Sg) (h : s.t < n.t ∧ n.t ≤ 3) {k : Nat} (hk : k ≠ 0) : ∀ (l : List Sg), typesD k (l ++ [s]) = true → typesD k (l ++ [s] ++ [n]) = true
  | [], h1 => by
    simp only [List.nil_append, List.cons_append, typesD, if_neg hk, risesD, Bool.and_true, Bool.and_eq_true, decide_eq_true_eq] at h1 ⊢
    exact ⟨h1, h⟩
  | a :: l, h1 => by
    simp only [List.cons_append, typesD, if_neg hk, Bool.and_eq_true] at h1 ⊢
    exact ⟨h1.1, rises_snoc s n h l a.t h1.2⟩

/-- What is open is the beginning of what may be. -/
def Inv (k : Nat) (p : Pt) : Prop := ∃ (D : List Sg) (s : Sg), p.segs = fromsD 0 (D ++ [s]) ∧ p.bytes = catD (D ++ [s]) ∧ typesD k (D ++ [s]) = true ∧ s.t = p.head.t ∧ (p.head.b = true → p.whole = false) ∧ (k = 0 → p.head.b = true)

theorem inv_step {f : Fr} {o : Option Pt} (ho : ∀ p, o = some p → Inv f.k p) (hr : refusedD f o = 0) :
    (¬ (f.b = true ∧ f.d = true) → Inv f.k ((o.getD pt0).add f)) ∧ checkA f.k (wholeD ((o.getD pt0).add f).bytes ((o.getD pt0).add f).segs) = 0 := by
  obtain ⟨hc, hfit, hl⟩ := refused_zero hr
  obtain ⟨ht, _, _⟩ := checkF_zero hc
  have key : ∃ (D : List Sg) (s : Sg), ((o.getD pt0).add f).segs = fromsD 0 (D ++ [s]) ∧ ((o.getD pt0).add f).bytes = catD (D ++ [s]) ∧ typesD f.k (D ++ [s]) = true ∧ s.t = ((o.getD pt0).add f).head.t ∧ ((o.getD pt0).add f).head.b = f.b ∧ (f.k = 0 → f.b = true) := by
    cases o with
    | none =>
      simp only [fitsD, Bool.and_eq_true] at hfit
      obtain ⟨⟨⟨h1, h2⟩, h3⟩, h4⟩ := hfit
      refine ⟨[], ⟨f.t, f.p⟩, by simp [Pt.add, h2, pt0, fromsD], by simp [Pt.add, pt0, catD], ?_, by simp [Pt.add, h2], by simp [Pt.add, h2], fun hk => by simpa [hk] using h4⟩
      simp [typesD, h3, risesD]
    | some p =>
      obtain ⟨D, s, i1, i2, i3, i4, i5, i6⟩ := ho p rfl
      simp only [Option.getD_some]
      simp only [fitsD] at hfit
      by_cases hw : p.whole = false
      · rw [if_pos hw] at hfit
        simp only [Bool.and_eq_true, Bool.not_eq_true', beq_iff_eq] at hfit
        obtain ⟨⟨⟨h1, h2⟩, h3⟩, h4⟩ := hfit
        refine ⟨D, ⟨s.t, str8 (sb s.p ++ sb f.p)⟩, ?_, ?_, ?_, by simp [Pt.add, h1, i4], by simp [Pt.add, h1, h4], fun hk => by rw [h4]; exact i6 hk⟩
        · simp [Pt.add, h1, i1, fromsD_snoc]
        · simp [Pt.add, i2, catD_snoc, sb_str8]
        · rw [← i3]
          exact types_map _ _ _ (by simp)
      · rw [if_neg hw] at hfit
        simp only [Bool.and_eq_true, Bool.not_eq_true', decide_eq_true_eq] at hfit
        obtain ⟨⟨h1, h2⟩, h3⟩ := hfit
        have hb : p.head.b = false := by
          cases hb : p.head.b with
          | false => rfl
          | true => exact absurd (i5 hb) hw
        have hk : f.k ≠ 0 := fun hk => by rw [i6 hk] at hb; cases hb
        refine ⟨D ++ [s], ⟨f.t, f.p⟩, ?_, ?_, types_snoc s _ ⟨by show s.t < f.t; omega, ht⟩ hk D i3, by simp [Pt.add, h1], by simp [Pt.add, h1], fun h => absurd h hk⟩
        · rw [fromsD_snoc 0 (D ++ [s]), ← i1]
          simp [Pt.add, h1, ← catD_len, i2]
        · rw [catD_snoc (D ++ [s]), ← i2]
          simp [Pt.add]
  obtain ⟨D, s, i1, i2, i3, i4, i5, i6⟩ := key
  refine ⟨fun hnot => ⟨D, s, i1, i2, i3, i4, fun hb => ?_, fun hk => i5.trans (i6 hk)⟩, ?_⟩
  · rw [i5] at hb
    show f.d = false
    cases hd : f.d with
    | false => rfl
    | true => exact absurd ⟨hb, hd⟩ hnot
  · rw [i1, whole_froms _ (D ++ [s]) 0 (by rw [i2]; rfl)]
    have hsum : sumS (D ++ [s]) ≤ 16384 := by
      rw [← catD_len, ← i2]
      simp only [Pt.add, List.length_append, sb_length]
      omega
    exact if_pos ⟨i3, hsum⟩

/-- All that is open may go on. -/
def InvO (o : Option (List (Plc × Pt))) : Prop := ∀ M, o = some M → ∀ x ∈ M, Inv x.1.2 x.2

theorem invO_nil : InvO (some []) := fun M h x hx => by cases h; cases hx

theorem feedO_inv {o : Option (List (Plc × Pt))} (h : InvO o) (f : Fr) :
    InvO (feedO o f).2 ∧ ((feedO o f).1.is = false → (feedO o f).1.l = [] ∧ ((feedO o f).1.e ≠ 0 → (feedO o f).2 = none)) ∧
      ((feedO o f).1.is = true → (feedO o f).1.e = 0 ∧ (feedO o f).1.ch = f.ch ∧ (feedO o f).1.k = f.k ∧ checkA f.k (feedO o f).1.l = 0) := by
  cases o with
  | none => exact ⟨fun M h => (by cases h), fun _ => ⟨rfl, fun _ => rfl⟩, fun h => by cases h⟩
  | some M =>
    show InvO (feedM M f).2 ∧ ((feedM M f).1.is = false → (feedM M f).1.l = [] ∧ ((feedM M f).1.e ≠ 0 → (feedM M f).2 = none)) ∧
      ((feedM M f).1.is = true → (feedM M f).1.e = 0 ∧ (feedM M f).1.ch = f.ch ∧ (feedM M f).1.k = f.k ∧ checkA f.k (feedM M f).1.l = 0)
    have hM := h M rfl
    unfold feedM
    simp only
    by_cases hr : refusedD f (getM M f.plc) ≠ 0
    · rw [if_pos hr]
      exact ⟨fun M h => (by cases h), fun _ => ⟨rfl, fun _ => rfl⟩, fun h => by cases h⟩
    · rw [if_neg hr]
      have hr0 : refusedD f (getM M f.plc) = 0 := by omega
      obtain ⟨s1, s2⟩ := inv_step (fun p hp => hM _ (getM_mem hp)) hr0
      by_cases hd : f.b = true ∧ f.d = true
      · rw [if_pos hd]
        refine ⟨fun M' h' x hx => ?_, fun h => (by cases h), fun _ => ⟨rfl, rfl, rfl, s2⟩⟩
        cases h'
        exact hM x (delM_sub.subset hx)
      · rw [if_neg hd]
        refine ⟨fun M' h' x hx => ?_, fun _ => ⟨rfl, fun h => absurd rfl h⟩, fun h => by cases h⟩
        cases h'
        rcases mem_putM hx with rfl | ⟨hx, _⟩
        · exact s1 hd
        · exact hM x hx

/-- What is open where frames of one place alone came. -/
def oneM (q : Plc) : Option Pt → List (Plc × Pt)
  | none => []
  | some p => [(q, p)]
theorem one_get (q : Plc) (o : Option Pt) : getM (oneM q o) q = o := by cases o <;> simp [oneM, getM]
theorem one_put (q : Plc) (o : Option Pt) (p : Pt) : putM (oneM q o) q p = oneM q (some p) := by cases o <;> simp [oneM, putM]
theorem one_del (q : Plc) (o : Option Pt) : delM (oneM q o) q = [] := by cases o <;> simp [oneM, delM]

theorem run_feed {ch k : Nat} {o : Option Pt} {f : Fr} {r : List Fr} {A : List Sg} (hch : f.ch = ch) (hk : f.k = k) (h : runAll o (f :: r) A) :
    (r = [] → feedM (oneM (ch, k) o) f = (⟨ch, k, A, true, 0⟩, some [])) ∧ (r ≠ [] → ∃ p, feedM (oneM (ch, k) o) f = (ans0 0, some (oneM (ch, k) (some p))) ∧ runAll (some p) r A) := by
  have hq : f.plc = (ch, k) := by rw [← hch, ← hk]; rfl
  cases r with
  | nil =>
    refine ⟨fun _ => ?_, fun h => absurd rfl h⟩
    obtain ⟨h1, h2, h3, h4⟩ := h
    unfold feedM
    simp only [hq, one_get]
    rw [if_neg (by omega), if_pos ⟨h2, h3⟩, one_del, h4, hch, hk]
  | cons g r =>
    refine ⟨fun h => (by cases h), fun _ => ⟨(o.getD pt0).add f, ?_, h.2.2⟩⟩
    unfold feedM
    simp only [hq, one_get]
    rw [if_neg (by have := h.1; omega), if_neg h.2.1, one_put]

theorem run_ne {o : Option Pt} {l : List Fr} {A : List Sg} (h : runAll o l A) : l ≠ [] := by rintro rfl; exact h

/-- The frames of an assembly bear its place, and are as frames are. -/
theorem pieceF_of {a b : Bool} {t k ch : Nat} : ∀ (xs : List (List UInt8)) (c : Bool), ∀ f ∈ pieceF a b t k ch c xs, f.t = t ∧ f.k = k ∧ f.ch = ch ∧ ∃ x ∈ xs, f.p = str8 x
  | [], _, f, h => by cases h
  | [x], c, f, h => by
    simp only [pieceF, List.mem_singleton] at h
    subst h
    exact ⟨rfl, rfl, rfl, x, by simp, rfl⟩
  | x :: y :: r, c, f, h => by
    simp only [pieceF, List.mem_cons] at h
    rcases h with rfl | h
    · exact ⟨rfl, rfl, rfl, x, by simp, rfl⟩
    · obtain ⟨h1, h2, h3, z, hz, h4⟩ := pieceF_of (y :: r) false f h
      exact ⟨h1, h2, h3, z, by simp at hz ⊢; exact .inr hz, h4⟩
theorem framesD_of {n k ch : Nat} (hn : 1 ≤ n) : ∀ (l : List Sg) (a : Bool), ∀ f ∈ framesD n k ch a l, f.k = k ∧ f.ch = ch ∧ f.p.size ≤ n ∧ ∃ s ∈ l, f.t = s.t
  | [], a, f, h => by cases h
  | s :: r, a, f, h => by
    simp only [framesD, List.mem_append] at h
    rcases h with h | h
    · obtain ⟨h1, h2, h3, x, hx, h4⟩ := pieceF_of _ _ f h
      refine ⟨h2, h3, ?_, s, by simp, h1⟩
      rw [h4, str8_sz]
      exact (cutP_flat hn _ _ (Nat.le_refl _)).2 x hx
    · obtain ⟨h1, h2, h3, q, hq, h4⟩ := framesD_of hn r false f h
      exact ⟨h1, h2, h3, q, List.mem_cons_of_mem _ hq, h4⟩
theorem rises_le : ∀ (l : List Sg) (x : Nat), risesD x l = true → ∀ s ∈ l, s.t ≤ 3
  | [], _, _, _, h => by cases h
  | a :: l, x, h, s, hs => by
    simp only [risesD, Bool.and_eq_true, decide_eq_true_eq] at h
    rcases List.mem_cons.1 hs with rfl | hs
    · exact h.1.2
    · exact rises_le l a.t h.2 s hs
theorem types_le {k : Nat} {l : List Sg} (h : typesD k l = true) : k ≤ 1 ∧ ∀ s ∈ l, s.t ≤ 3 := by
  cases l with
  | nil => cases h
  | cons a r =>
    simp only [typesD, Bool.and_eq_true] at h
    obtain ⟨h1, h2⟩ := h
    unfold firstD at h1
    split at h1
    · rename_i hk
      rw [if_pos hk] at h2
      simp at h1 h2
      subst h2
      refine ⟨by omega, fun s hs => ?_⟩
      simp at hs
      subst hs
      omega
    · rename_i hk
      rw [if_neg hk] at h2
      split at h1
      · simp at h1
        refine ⟨by omega, fun s hs => ?_⟩
        rcases List.mem_cons.1 hs with rfl | hs
        · omega
        · exact rises_le r a.t h2 s hs
      · cases h1
theorem frames_ok {n k ch : Nat} {l : List Sg} (hn : 1 ≤ n) (hn2 : n ≤ 4084) (hch : ch < 65536) (h : checkA k l = 0) : ∀ f ∈ framesD n k ch true l, f.ok ∧ f.k = k ∧ f.ch = ch := fun f hf => by
  obtain ⟨h1, h2, h3, s, hs, h4⟩ := framesD_of hn l true f hf
  obtain ⟨h5, h6⟩ := types_le (checkA_zero h).1
  have := h6 s hs
  exact ⟨⟨by omega, by omega, by omega, by omega⟩, h1, h2⟩
theorem segs_ok {k : Nat} {l : List Sg} (h : checkA k l = 0) : l.length ≤ 3 ∧ ∀ s ∈ l, s.p.size ≤ 16384 := by
  obtain ⟨h1, h2⟩ := checkA_zero h
  refine ⟨types_three h1, fun s hs => ?_⟩
  have : ∀ (l : List Sg), s ∈ l → s.p.size ≤ sumS l := by
    intro l
    induction l with
    | nil => intro h; cases h
    | cons a r ih =>
      intro h
      simp only [sumS]
      rcases List.mem_cons.1 h with rfl | h
      · omega
      · have := ih h
        omega
  have := this l hs
  omega

end Go.Proofs.YtdjahdnaihijjaaGreatDoor
