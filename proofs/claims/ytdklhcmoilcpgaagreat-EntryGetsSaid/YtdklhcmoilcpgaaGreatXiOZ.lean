/-
  Texts, together: XiP, XiV8, XiQ, XiO.
  Conditions: none but sizes.
-/
import Derived.Test.YtdklhcmoilcpgaaGreatRef04AZ
import Derived.Test.YtdklhcmoilcpgaaGreatOctAZ
import Derived.Test.YtdklhcmoilcpgaaGreatXiAZ
set_option linter.unusedVariables false
set_option linter.unusedSimpArgs false
namespace Go.Proofs.YtdklhcmoilcpgaaGreat
open Go.RowKit
def getD (l : List UInt8) : Option (Nat × List UInt8 × List UInt8 × Nat) :=
  if l.length < 5 then none
  else if l.length < 6 + (l.getD 4 0).toNat then none
  else if l.length < 6 + (l.getD 4 0).toNat + (l.getD (5 + (l.getD 4 0).toNat) 0).toNat then none
  else some (numOf (l.take 4), (l.drop 5).take (l.getD 4 0).toNat, (l.drop (6 + (l.getD 4 0).toNat)).take (l.getD (5 + (l.getD 4 0).toNat) 0).toNat, 6 + (l.getD 4 0).toNat + (l.getD (5 + (l.getD 4 0).toNat) 0).toNat)
theorem textS_nil : textS 1 255 (some []) = ([], none) := by
 have hn : numS 1 (some ([] : List UInt8)) = (0, none) := by unfold numS; rw [if_pos (by decide)]; rfl
 unfold textS
 rw [if_pos (show txt 1 = true by decide), hn]
 rfl
theorem textS_none : textS 1 255 none = ([], none) := by
 have hn : numS 1 (none : Option (List UInt8)) = (0, none) := by unfold numS; rw [if_pos (by decide)]; rfl
 unfold textS
 rw [if_pos (show txt 1 = true by decide), hn]
 rfl
theorem textS_cons (c : UInt8) (l : List UInt8) : textS 1 255 (some (c :: l)) = if c.toNat ≤ l.length then (l.take c.toNat, some (l.drop c.toNat)) else ([], none) := by
 have hc := c.toNat_lt
 have hn : numS 1 (some (c :: l)) = (c.toNat, some l) := by
  unfold numS
  rw [if_pos (by decide), show takeS 1 (some (c :: l)) = ([c], some l) from (takeS_ok 1 (c :: l) (by simp)).trans (by simp)]
  simp [numOf]
 unfold textS
 rw [if_pos (show txt 1 = true by decide), hn]
 unfold textT
 simp only
 rw [if_neg (by omega)]
 by_cases h : c.toNat ≤ l.length
 ·rw [if_pos h, takeS_ok _ _ h]
 ·rw [if_neg h, takeS_far _ _ (by omega)]
theorem drop_cons_getD (l : List UInt8) (k : Nat) (h : k < l.length) : l.drop k = l.getD k 0 :: l.drop (k + 1) := by
 rw [List.drop_eq_getElem_cons h]
 simp [List.getD, h]
theorem numS4 (l : List UInt8) : numS 4 (some l) = if 4 ≤ l.length then (numOf (l.take 4), some (l.drop 4)) else (0, none) := by
 unfold numS
 rw [if_pos (by decide)]
 by_cases h : 4 ≤ l.length
 ·rw [if_pos h, show takeS 4 (some l) = (l.take 4, some (l.drop 4)) from takeS_ok 4 l h]
 ·rw [if_neg h, show takeS 4 (some l) = ([], none) from takeS_far 4 l (by omega)]
  rfl
theorem gx_short (l : List UInt8) (h : getD l = none) : (gx3 l).2 = none := by
 unfold gx3 gx2 gx1
 rw [numS4]
 by_cases h4 : 4 ≤ l.length
 ·rw [if_pos h4]
  simp only
  by_cases h5 : l.length < 5
  ·rw [List.drop_of_length_le (by omega), textS_nil]
   simp only [textS_none]
  ·rw [drop_cons_getD l 4 (by omega), textS_cons]
   unfold getD at h
   rw [if_neg h5] at h
   by_cases h6 : l.length < 6 + (l.getD 4 0).toNat
   ·by_cases h7 : (l.getD 4 0).toNat ≤ (l.drop (4 + 1)).length
    ·rw [if_pos h7]
     simp only [List.length_drop] at h7
     simp only [List.drop_drop]
     rw [List.drop_of_length_le (by omega), textS_nil]
    ·rw [if_neg h7]
     simp only [textS_none]
   ·rw [if_neg h6] at h
    rw [if_pos (by rw [List.length_drop]; omega)]
    simp only [List.drop_drop]
    rw [drop_cons_getD l _ (by omega), textS_cons]
    by_cases h8 : l.length < 6 + (l.getD 4 0).toNat + (l.getD (5 + (l.getD 4 0).toNat) 0).toNat
    ·rw [if_neg]
     rw [show 4 + 1 + (l.getD 4 0).toNat = 5 + (l.getD 4 0).toNat by omega]
     simp only [List.length_drop]
     omega
    ·rw [if_neg h8] at h
     cases h
 ·rw [if_neg h4]
  simp only [textS_none]
theorem gx_some (l : List UInt8) (f : Nat) (g h : List UInt8) (c : Nat) (hg : getD l = some (f, g, h, c)) : (gx1 l).1 = f ∧ (gx2 l).1 = g ∧ (gx3 l).1 = h ∧ (gx3 l).2 = some (l.drop c) ∧ c ≤ l.length := by
 unfold getD at hg
 split at hg
 ·cases hg
 ·rename_i h5
  split at hg
  ·cases hg
  ·rename_i h6
   split at hg
   ·cases hg
   ·rename_i h8
    simp only [Option.some.injEq, Prod.mk.injEq] at hg
    obtain ⟨e1, e2, e3, e4⟩ := hg
    have hgx1 : gx1 l = (numOf (l.take 4), some (l.drop 4)) := by unfold gx1; rw [numS4, if_pos (by omega)]
    have hgx2 : gx2 l = ((l.drop 5).take (l.getD 4 0).toNat, some (l.drop (5 + (l.getD 4 0).toNat))) := by
     unfold gx2
     rw [hgx1]
     simp only
     rw [drop_cons_getD l 4 (by omega), textS_cons, if_pos (by rw [List.length_drop]; omega)]
     simp only [List.drop_drop]
    have hgx3 : gx3 l = ((l.drop (6 + (l.getD 4 0).toNat)).take (l.getD (5 + (l.getD 4 0).toNat) 0).toNat, some (l.drop (6 + (l.getD 4 0).toNat + (l.getD (5 + (l.getD 4 0).toNat) 0).toNat))) := by
     unfold gx3
     rw [hgx2]
     simp only
     rw [drop_cons_getD l _ (by omega), textS_cons, if_pos (by rw [List.length_drop]; omega)]
     simp only [List.drop_drop]
     rw [show 5 + (l.getD 4 0).toNat + 1 = 6 + (l.getD 4 0).toNat by omega]
    rw [hgx1, hgx2, hgx3]
    exact ⟨e1, e2, e3, by rw [← e4], by omega⟩
theorem getD_take (l : List UInt8) : getD (l.take 516) = getD l := by
 by_cases h : l.length ≤ 516
 ·rw [List.take_of_length_le h]
 ·have hl : (l.take 516).length = 516 := by simp; omega
  have hg : ∀ k, k < 516 → (l.take 516).getD k 0 = l.getD k 0 := fun k hk => by simp [List.getD, List.getElem?_take, hk]
  have ha := (l.getD 4 0).toNat_lt
  have hb := (l.getD (5 + (l.getD 4 0).toNat) 0).toNat_lt
  unfold getD
  rw [hl, hg 4 (by omega), hg (5 + (l.getD 4 0).toNat) (by omega)]
  rw [if_neg (by omega), if_neg (by omega), if_neg (by omega), if_neg (by omega), if_neg (by omega), if_neg (by omega)]
  have t1 : (l.take 516).take 4 = l.take 4 := by rw [List.take_take]; congr 1
  have t2 : ∀ a k, a + k ≤ 516 → ((l.take 516).drop a).take k = (l.drop a).take k := fun a k hk => by
   rw [List.drop_take, List.take_take]
   congr 1
   omega
  rw [t1, t2 _ _ (by omega), t2 _ _ (by omega)]
end Go.Proofs.YtdklhcmoilcpgaaGreat
namespace Go.Proofs.YtdklhcmoilcpgaaGreat
open Go.RowKit
theorem xnumOf_be : ∀ (k n : Nat), numOf (be k n) = n % 256 ^ k
 | 0, n => by simp [be, numOf, Nat.mod_one]
 | k + 1, n => by
  rw [be, numOf_snoc, xnumOf_be k]
  have h1 : (UInt8.ofNat n).toNat = n % 256 := by simp
  rw [h1, Nat.pow_succ, Nat.mul_comm (256 ^ k) 256, Nat.mod_mul]
  omega
theorem encX_length (f : Nat) (g h : ByteArray) : (encX f g h).length = 6 + g.size + h.size := by
 unfold encX
 simp [be_length, sb_length]
 omega
theorem getD_parts (B G H r : List UInt8) (hB : B.length = 4) (hG : G.length < 256) (hH : H.length < 256) :
  getD (B ++ [UInt8.ofNat G.length] ++ G ++ [UInt8.ofNat H.length] ++ H ++ r) = some (numOf B, G, H, 6 + G.length + H.length) := by
 have e : B ++ [UInt8.ofNat G.length] ++ G ++ [UInt8.ofNat H.length] ++ H ++ r = B ++ (UInt8.ofNat G.length :: (G ++ (UInt8.ofNat H.length :: (H ++ r)))) := by simp
 rw [e]
 have cG : (UInt8.ofNat G.length).toNat = G.length := by simp; omega
 have cH : (UInt8.ofNat H.length).toNat = H.length := by simp; omega
 generalize UInt8.ofNat G.length = x at *
 generalize UInt8.ofNat H.length = y at *
 have l4 : (B ++ (x :: (G ++ (y :: (H ++ r))))).getD 4 0 = x := by
  rw [List.getD_eq_getElem?_getD, List.getElem?_append_right (by omega), hB]; rfl
 have d5 : (B ++ (x :: (G ++ (y :: (H ++ r))))).drop 5 = G ++ (y :: (H ++ r)) := by
  rw [show (5 : Nat) = B.length + 1 by omega, ← List.drop_drop, List.drop_left]; rfl
 have l5 : (B ++ (x :: (G ++ (y :: (H ++ r))))).getD (5 + G.length) 0 = y := by
  rw [List.getD_eq_getElem?_getD, ← List.getElem?_drop, d5, List.getElem?_append_right (Nat.le_refl _), Nat.sub_self]; rfl
 have d6 : (B ++ (x :: (G ++ (y :: (H ++ r))))).drop (6 + G.length) = H ++ r := by
  rw [show 6 + G.length = 5 + (G.length + 1) by omega, ← List.drop_drop, d5, ← List.drop_drop, List.drop_left]; rfl
 have ll : (B ++ (x :: (G ++ (y :: (H ++ r))))).length = 6 + G.length + H.length + r.length := by simp; omega
 unfold getD
 rw [l4, cG, l5, cH, d5, d6, ll, if_neg (by omega), if_neg (by omega), if_neg (by omega)]
 rw [← hB, List.take_left, List.take_left, List.take_left]
theorem getD_enc (f : Nat) (g h : ByteArray) (r : List UInt8) (hm : mayX g h) (hf : f < 4294967296) : getD (encX f g h ++ r) = some (f, sb g, sb h, (encX f g h).length) := by
 obtain ⟨m1, m2, m3⟩ := hm
 have := getD_parts (be 4 f) (sb g) (sb h) r (be_length _ _) (by rw [sb_length]; omega) (by rw [sb_length]; omega)
 rw [encX_length]
 rw [sb_length, sb_length, xnumOf_be, Nat.mod_eq_of_lt (by omega)] at this
 exact this
theorem xbe_numOf : ∀ (k : Nat) (l : List UInt8), l.length = k → be k (numOf l) = l
 | 0, l, h => by
  obtain rfl := List.length_eq_zero_iff.1 h
  rfl
 | k + 1, l, h => by
  have hne : l ≠ [] := by intro e; simp [e] at h
  rw [← List.dropLast_concat_getLast hne, numOf_snoc, be]
  have hb := (l.getLast hne).toNat_lt
  rw [show (numOf l.dropLast * 256 + (l.getLast hne).toNat) / 256 = numOf l.dropLast by omega, xbe_numOf k l.dropLast (by simp [h])]
  congr 2
  rw [show UInt8.ofNat (numOf l.dropLast * 256 + (l.getLast hne).toNat) = UInt8.ofNat (l.getLast hne).toNat by
   apply UInt8.toNat_inj.1
   simp
   ]
  simp
theorem getD_sound {l : List UInt8} {f n : Nat} {g h : List UInt8} (hg : getD l = some (f, g, h, n)) (hm : mayX (str8 g) (str8 h)) : f < 4294967296 ∧ encX f (str8 g) (str8 h) = l.take n ∧ n ≤ l.length := by
 unfold getD at hg
 split at hg
 ·cases hg
 split at hg
 ·cases hg
 split at hg
 ·cases hg
 rename_i h1 h2 h3
 simp only [Option.some.injEq, Prod.mk.injEq] at hg
 obtain ⟨rfl, eg, eh, rfl⟩ := hg
 have hf : numOf (l.take 4) < 4294967296 := by
  have := numOf_lt (l.take 4)
  rw [List.length_take, Nat.min_eq_left (by omega)] at this
  exact this
 have lg : g.length = (l.getD 4 0).toNat := by rw [← eg, List.length_take, List.length_drop]; omega
 have d4 : l.drop 4 = l.getD 4 0 :: l.drop 5 := drop_cons_getD l 4 (by omega)
 have d5 : l.drop (5 + (l.getD 4 0).toNat) = l.getD (5 + (l.getD 4 0).toNat) 0 :: l.drop (6 + (l.getD 4 0).toNat) := by
  rw [show 6 + (l.getD 4 0).toNat = 5 + (l.getD 4 0).toNat + 1 by omega]
  exact drop_cons_getD l _ (by omega)
 have lh : h.length = (l.getD (5 + (l.getD 4 0).toNat) 0).toNat := by rw [← eh, List.length_take, List.length_drop]; omega
 refine ⟨hf, ?_, by omega⟩
 unfold encX
 rw [str8_size, str8_size, sb_str8, sb_str8, xbe_numOf 4 _ (by simp; omega), lg, lh]
 generalize hx : l.getD 4 0 = x at *
 generalize hy : l.getD (5 + x.toNat) 0 = y at *
 have e1 : UInt8.ofNat x.toNat = x := by simp
 have e2 : UInt8.ofNat y.toNat = y := by simp
 rw [e1, e2, ← eg, ← eh]
 have t1 : l = l.take 4 ++ (x :: ((l.drop 5).take x.toNat ++ (y :: ((l.drop (6 + x.toNat)).take y.toNat ++ l.drop (6 + x.toNat + y.toNat))))) := by
  conv => lhs; rw [← List.take_append_drop 4 l, d4, ← List.take_append_drop x.toNat (l.drop 5), List.drop_drop, d5, ← List.take_append_drop y.toNat (l.drop (6 + x.toNat)), List.drop_drop]
 have t2 : (6 + x.toNat + y.toNat) = (l.take 4 ++ [x] ++ (l.drop 5).take x.toNat ++ [y] ++ (l.drop (6 + x.toNat)).take y.toNat).length := by simp; omega
 conv => rhs; rw [t1]
 rw [show l.take 4 ++ (x :: ((l.drop 5).take x.toNat ++ (y :: ((l.drop (6 + x.toNat)).take y.toNat ++ l.drop (6 + x.toNat + y.toNat))))) = (l.take 4 ++ [x] ++ (l.drop 5).take x.toNat ++ [y] ++ (l.drop (6 + x.toNat)).take y.toNat) ++ l.drop (6 + x.toNat + y.toNat) by simp]
 rw [t2, List.take_left]
end Go.Proofs.YtdklhcmoilcpgaaGreat
namespace Go.Proofs.YtdklhcmoilcpgaaGreat
open Go.RowKit
theorem Shows.head_ {w : World} {d c k : Nat} {A : Option Addr} {l : List UInt8} (h : Shows w d (.slice A l.length c) l) (hk : k ≤ l.length) : Shows w d (.slice A (l.take k).length c) (l.take k) := by
 obtain ⟨h1, h2, h3⟩ := h.lens
 refine ⟨A, c, rfl, by simp; omega, h3, fun hp => ?_⟩
 simp at hp
 obtain ⟨o, h5, h6, h7⟩ := h.at_ (by omega)
 exact ⟨o, h5, h6, fun j hj => by rw [h7 j (by simp at hj; omega)]; simp⟩
theorem setX {w : World} {g d X j : Nat} {v : Value} {s : Option (List UInt8)} (h : RS w g d s) (hg : g ≠ X) (hd : d ≠ X) : RS (w.setCell ⟨X, j, none⟩ v) g d s :=
 h.keep (by simp) (heap_setCell_other w ⟨X, j, none⟩ g v hg) (fun _ => heap_setCell_other w ⟨X, j, none⟩ d v hd)
set_option maxHeartbeats 4000000 in
set_option maxRecDepth 100000 in
theorem get_short (A : Option Addr) (c d : Nat) (b : List UInt8) (w : World) (hv : Shows w d (.slice A b.length c) b) (hb : b.length ≤ 140737488355328) (hn : (gx3 (b.take 516)).2 = none) :
  Calls Tryz.prog 108 #[.slice A b.length c] w fun e w' => e = .returned (.tuple #[xidV 0 ByteArray.empty ByteArray.empty, .int .i64 0, .int .i64 4]) ∧ Below w.heap.size w w' := by
 obtain ⟨F, hFe⟩ : ∃ F, F = b.take 516 := ⟨_, rfl⟩
 rw [← hFe] at hn
 have hFl : F.length ≤ 516 := by rw [hFe]; simp; omega
 obtain ⟨_, hc1, hc2⟩ := hv.lens
 have hsh : Shows w d (.slice A F.length c) F := by
  rw [hFe]
  by_cases h : 516 ≤ b.length
  ·exact hv.head_ h
  ·rw [List.take_of_length_le (by omega)]; exact hv
 have hs0 : lenS (some F) ≤ 140737488355328 := by simp only [lenS]; omega
 have hs1 : lenS (gx1 F).2 ≤ 140737488355328 := Nat.le_trans (numS_lenS _ _) hs0
 have hs2 : lenS (gx2 F).2 ≤ 140737488355328 := Nat.le_trans (x_textS_lenS _ _ _) hs1
 have hopen := Lib.hid (fun v w (h : Shows w d v F) => open_any v F d w h (by omega))
 have hnum := Lib.hid (fun g d w (h : RS w g d (some F)) => num_any g d (some F) 4 w h hs0)
 have ht1 := Lib.hid (fun g d w (h : RS w g d (gx1 F).2) => text_any g d (gx1 F).2 1 255 w h hs1 (by omega) (by omega))
 have ht2 := Lib.hid (fun g d w (h : RS w g d (gx2 F).2) => text_any g d (gx2 F).2 1 255 w h hs2 (by omega) (by omega))
 rw [show numS 4 (some F) = gx1 F from rfl] at hnum
 rw [show textS 1 255 (gx1 F).2 = gx2 F from rfl] at ht1
 rw [show textS 1 255 (gx2 F).2 = gx3 F from rfl, hn] at ht2
 have hx : (gx1 F).1 < 4294967296 := numS4_lt _
 generalize gx1 F = p1 at *
 generalize gx2 F = p2 at *
 generalize gx3 F = p3 at *
 clear hs0 hs1 hs2
 have wr1 : IntKind.u32.wrap (p1.1 : Int) = (p1.1 : Int) := by rw [IntKind.wrap_u32]; omega
 have HFE : (516 < b.length ∧ F.length = 516) ∨ (b.length ≤ 516 ∧ F.length = b.length) := by
  rw [hFe]
  rcases Nat.lt_or_ge 516 b.length with h | h
  ·left; exact ⟨h, by simp; omega⟩
  ·right; exact ⟨h, by rw [List.take_of_length_le h]⟩
 have HWR := Lib.hid wr1
 clear hFe wr1 hFl hn
 rcases HFE with ⟨h516, hfl⟩ | ⟨h516, hfl⟩
 case' inl => have t516 : (516 : Int) < (b.length : Int) := by omega
 case' inr => have t516 : ¬ (516 : Int) < (b.length : Int) := by omega
 all_goals
  rw [hfl] at hsh
  have HFL := Lib.hid hfl
  clear hfl
  go_enter Tryz.func108, Tryz.ntmps108
  go_wp2_with fail
  refine (hopen.out _ _ (hsh.keep (by simp) fun hp => Below.heap_alloc _ _ _ (hsh.lt hp))).mono ?_
  rintro e w1 ⟨g, d', rfl, hq, hg, ⟨_, hdg⟩, hb1⟩
  have hgl : w.heap.size < g := by simp at hg; omega
  have hglt : g < w1.heap.size := hq.lt
  have hR1 : Boxed w1 w.heap.size 0 ⟨#[]⟩ ⟨#[]⟩ := (Boxed.new w).below hb1 (by simp)
  have hw1 : Below w.heap.size w w1 := (below_box w _).trans (hb1.mono (by simp))
  clear hb1 hg hsh
  go_wp2_with fail
  have hqx : RS (w1.alloc (Obj.cells #[.int .u32 0, .string ⟨#[]⟩, .string ⟨#[]⟩] 25)) g d' (some F) := hq.keep (by simp) (Below.heap_alloc w1 _ _ hglt) (fun hd => Below.heap_alloc w1 _ _ hd)
  have hX1 : Boxed (w1.alloc (Obj.cells #[.int .u32 0, .string ⟨#[]⟩, .string ⟨#[]⟩] 25)) w1.heap.size 0 ⟨#[]⟩ ⟨#[]⟩ := Boxed.new w1
  have hRx : Boxed (w1.alloc (Obj.cells #[.int .u32 0, .string ⟨#[]⟩, .string ⟨#[]⟩] 25)) w.heap.size 0 ⟨#[]⟩ ⟨#[]⟩ := hR1.keep (Below.heap_alloc w1 _ _ hR1.lt)
  have hwx : Below w.heap.size w (w1.alloc (Obj.cells #[.int .u32 0, .string ⟨#[]⟩, .string ⟨#[]⟩] 25)) := hw1.alloc hw1.size _
  have hRl := hR1.lt
  generalize w1.alloc (Obj.cells #[.int .u32 0, .string ⟨#[]⟩, .string ⟨#[]⟩] 25) = w2 at *
  generalize w1.heap.size = X at *
  refine (hnum.out g d' w2 hqx).mono ?_
  rintro e w3 ⟨rfl, hq3, hg3⟩
  have hX3 := hX1.keep (hg3.block _ hX1.lt (fun e => by cases e; omega))
  have hR3 := hRx.keep (hg3.block _ hRx.lt (fun e => by cases e; omega))
  have hw3 : Below w.heap.size w w3 := hwx.trans (below_of_grown hg3 (by omega) hwx.size)
  have x0 := hX3.c0
  have y0 := hX3.froz 0
  have wr1 := HWR.out
  go_wp2_with fail
  have hX4 : Boxed (w3.setCell ⟨X, 0, none⟩ (.int .u32 p1.1)) X p1.1 ⟨#[]⟩ ⟨#[]⟩ := heap_setCell_same w3 X 0 _ 25 _ hX3
  have hR4 := hR3.keep (heap_setCell_other w3 ⟨X, 0, none⟩ _ (.int .u32 p1.1) (by simp; omega))
  have hq4 : RS (w3.setCell ⟨X, 0, none⟩ (.int .u32 p1.1)) g d' p1.2 := setX hq3 (by omega) (by omega)
  have hw4 := below_set hw3 (Nat.le_of_lt hRl) (b := X) (j := 0) (.int .u32 p1.1)
  clear hX1 hRx hwx hX3 hR3 hq3 hg3 x0 y0 wr1 hqx hq hw1 hR1
  generalize w3.setCell ⟨X, 0, none⟩ (.int .u32 p1.1) = w4 at *
  refine (ht1.out g d' w4 hq4).mono ?_
  rintro e w5 ⟨rfl, hq5, hg5⟩
  have hX5 := hX4.keep (hg5.block _ hX4.lt (fun e => by cases e; omega))
  have hR5 := hR4.keep (hg5.block _ hR4.lt (fun e => by cases e; omega))
  have hw5 : Below w.heap.size w w5 := hw4.trans (below_of_grown hg5 (by omega) hw4.size)
  have x1 := hX5.c1
  have y1 := hX5.froz 1
  go_wp2_with fail
  have hX6 : Boxed (w5.setCell ⟨X, 1, none⟩ (.string (str8 p2.1))) X p1.1 (str8 p2.1) ⟨#[]⟩ := heap_setCell_same w5 X 1 _ 25 _ hX5
  have hR6 := hR5.keep (heap_setCell_other w5 ⟨X, 1, none⟩ _ (.string (str8 p2.1)) (by simp; omega))
  have hq6 : RS (w5.setCell ⟨X, 1, none⟩ (.string (str8 p2.1))) g d' p2.2 := setX hq5 (by omega) (by omega)
  have hw6 := below_set hw5 (Nat.le_of_lt hRl) (b := X) (j := 1) (.string (str8 p2.1))
  clear hX4 hR4 hq4 hw4 hX5 hR5 hq5 hg5 x1 y1
  generalize w5.setCell ⟨X, 1, none⟩ (.string (str8 p2.1)) = w6 at *
  refine (ht2.out g d' w6 hq6).mono ?_
  rintro e w7 ⟨rfl, hq7, hg7⟩
  have hX7 := hX6.keep (hg7.block _ hX6.lt (fun e => by cases e; omega))
  have hR7 := hR6.keep (hg7.block _ hR6.lt (fun e => by cases e; omega))
  have hw7 : Below w.heap.size w w7 := hw6.trans (below_of_grown hg7 (by omega) hw6.size)
  have x2 := hX7.c2
  have y2 := hX7.froz 2
  go_wp2_with fail
  have hX8 : Boxed (w7.setCell ⟨X, 2, none⟩ (.string (str8 p3.1))) X p1.1 (str8 p2.1) (str8 p3.1) := heap_setCell_same w7 X 2 _ 25 _ hX7
  have hR8 := hR7.keep (heap_setCell_other w7 ⟨X, 2, none⟩ _ (.string (str8 p3.1)) (by simp; omega))
  have hq8 : RS (w7.setCell ⟨X, 2, none⟩ (.string (str8 p3.1))) g d' none := setX hq7 (by omega) (by omega)
  have hw8 := below_set hw7 (Nat.le_of_lt hRl) (b := X) (j := 2) (.string (str8 p3.1))
  clear hX6 hR6 hq6 hw6 hX7 hR7 hq7 hg7 x2 y2
  generalize w7.setCell ⟨X, 2, none⟩ (.string (str8 p3.1)) = w8 at *
  obtain ⟨l8, hq8⟩ := hq8
  refine (bad_yes g d' l8 w8 hq8).mono ?_
  rintro e w9 ⟨rfl, rfl⟩
  have hR9 := hR8
  have hw9 := hw8
  have r5 := heap_setCell_same w8 w.heap.size 0 _ 25 (.int .u32 0) hR9
  have r6 := heap_setCell_same _ w.heap.size 1 _ 25 (.string ⟨#[]⟩) r5
  have r7 := heap_setCell_same _ w.heap.size 2 _ 25 (.string ⟨#[]⟩) r6
  have HR := Lib.hid r7
  have k0 := hR9.c0
  have k1 := hR9.c1
  have k2 := hR9.c2
  have f0 := hR9.froz 0
  have f1 := hR9.froz 1
  have f2 := hR9.froz 2
  clear r5 r6 r7
  go_wp2_with fail
  (try simp only [Exit.inBlock, Exit.then])
  exact bodyPost_ret (results_cell_tmp2 rfl _ _ w.heap.size 25 _ (0, 0) _ rfl HR.out Tryz.underlying25 rfl (by kernel_rfl)) rfl ⟨rfl, below_set (below_set (below_set hw9 (Nat.le_refl _) _) (Nat.le_refl _) _) (Nat.le_refl _) _⟩
set_option maxHeartbeats 4000000 in
set_option maxRecDepth 100000 in
theorem get_bad (A : Option Addr) (c d : Nat) (b : List UInt8) (w : World) (hv : Shows w d (.slice A b.length c) b) (hb : b.length ≤ 140737488355328) (rest : List UInt8) (hn : (gx3 (b.take 516)).2 = some rest) (hm : ¬ mayX (str8 (gx2 (b.take 516)).1) (str8 (gx3 (b.take 516)).1)) :
  Calls Tryz.prog 108 #[.slice A b.length c] w fun e w' => e = .returned (.tuple #[xidV 0 ByteArray.empty ByteArray.empty, .int .i64 0, .int .i64 40]) ∧ Below w.heap.size w w' := by
 obtain ⟨F, hFe⟩ : ∃ F, F = b.take 516 := ⟨_, rfl⟩
 rw [← hFe] at hn hm
 have hFl : F.length ≤ 516 := by rw [hFe]; simp; omega
 obtain ⟨_, hc1, hc2⟩ := hv.lens
 have hsh : Shows w d (.slice A F.length c) F := by
  rw [hFe]
  by_cases h : 516 ≤ b.length
  ·exact hv.head_ h
  ·rw [List.take_of_length_le (by omega)]; exact hv
 have hs0 : lenS (some F) ≤ 140737488355328 := by simp only [lenS]; omega
 have hs1 : lenS (gx1 F).2 ≤ 140737488355328 := Nat.le_trans (numS_lenS _ _) hs0
 have hs2 : lenS (gx2 F).2 ≤ 140737488355328 := Nat.le_trans (x_textS_lenS _ _ _) hs1
 have hopen := Lib.hid (fun v w (h : Shows w d v F) => open_any v F d w h (by omega))
 have hnum := Lib.hid (fun g d w (h : RS w g d (some F)) => num_any g d (some F) 4 w h hs0)
 have ht1 := Lib.hid (fun g d w (h : RS w g d (gx1 F).2) => text_any g d (gx1 F).2 1 255 w h hs1 (by omega) (by omega))
 have ht2 := Lib.hid (fun g d w (h : RS w g d (gx2 F).2) => text_any g d (gx2 F).2 1 255 w h hs2 (by omega) (by omega))
 rw [show numS 4 (some F) = gx1 F from rfl] at hnum
 rw [show textS 1 255 (gx1 F).2 = gx2 F from rfl] at ht1
 rw [show textS 1 255 (gx2 F).2 = gx3 F from rfl, hn] at ht2
 have hx : (gx1 F).1 < 4294967296 := numS4_lt _
 have hy2 : (gx2 F).1.length ≤ F.length := Nat.le_trans (x_textS_fst_le _ _ _) (numS_lenS _ _)
 have hy3 : (gx3 F).1.length ≤ F.length := Nat.le_trans (x_textS_fst_le _ _ _) (Nat.le_trans (x_textS_lenS _ _ _) (numS_lenS _ _))
 have hck := Lib.hid (fun w => check_no (gx1 F).1 (str8 (gx2 F).1) (str8 (gx3 F).1) w hm (by rw [str8_size]; omega) (by rw [str8_size]; omega))
 clear hy2 hy3 hm
 unfold xidV at *
 generalize gx1 F = p1 at *
 generalize gx2 F = p2 at *
 generalize gx3 F = p3 at *
 clear hs0 hs1 hs2
 have wr1 : IntKind.u32.wrap (p1.1 : Int) = (p1.1 : Int) := by rw [IntKind.wrap_u32]; omega
 have HFE : (516 < b.length ∧ F.length = 516) ∨ (b.length ≤ 516 ∧ F.length = b.length) := by
  rw [hFe]
  rcases Nat.lt_or_ge 516 b.length with h | h
  ·left; exact ⟨h, by simp; omega⟩
  ·right; exact ⟨h, by rw [List.take_of_length_le h]⟩
 have HWR := Lib.hid wr1
 clear hFe wr1 hFl hn
 rcases HFE with ⟨h516, hfl⟩ | ⟨h516, hfl⟩
 case' inl => have t516 : (516 : Int) < (b.length : Int) := by omega
 case' inr => have t516 : ¬ (516 : Int) < (b.length : Int) := by omega
 all_goals
  rw [hfl] at hsh
  have HFL := Lib.hid hfl
  clear hfl
  go_enter Tryz.func108, Tryz.ntmps108
  go_wp2_with fail
  refine (hopen.out _ _ (hsh.keep (by simp) fun hp => Below.heap_alloc _ _ _ (hsh.lt hp))).mono ?_
  rintro e w1 ⟨g, d', rfl, hq, hg, ⟨_, hdg⟩, hb1⟩
  have hgl : w.heap.size < g := by simp at hg; omega
  have hglt : g < w1.heap.size := hq.lt
  have hR1 : Boxed w1 w.heap.size 0 ⟨#[]⟩ ⟨#[]⟩ := (Boxed.new w).below hb1 (by simp)
  have hw1 : Below w.heap.size w w1 := (below_box w _).trans (hb1.mono (by simp))
  clear hb1 hg hsh
  go_wp2_with fail
  have hqx : RS (w1.alloc (Obj.cells #[.int .u32 0, .string ⟨#[]⟩, .string ⟨#[]⟩] 25)) g d' (some F) := hq.keep (by simp) (Below.heap_alloc w1 _ _ hglt) (fun hd => Below.heap_alloc w1 _ _ hd)
  have hX1 : Boxed (w1.alloc (Obj.cells #[.int .u32 0, .string ⟨#[]⟩, .string ⟨#[]⟩] 25)) w1.heap.size 0 ⟨#[]⟩ ⟨#[]⟩ := Boxed.new w1
  have hRx : Boxed (w1.alloc (Obj.cells #[.int .u32 0, .string ⟨#[]⟩, .string ⟨#[]⟩] 25)) w.heap.size 0 ⟨#[]⟩ ⟨#[]⟩ := hR1.keep (Below.heap_alloc w1 _ _ hR1.lt)
  have hwx : Below w.heap.size w (w1.alloc (Obj.cells #[.int .u32 0, .string ⟨#[]⟩, .string ⟨#[]⟩] 25)) := hw1.alloc hw1.size _
  have hRl := hR1.lt
  generalize w1.alloc (Obj.cells #[.int .u32 0, .string ⟨#[]⟩, .string ⟨#[]⟩] 25) = w2 at *
  generalize w1.heap.size = X at *
  refine (hnum.out g d' w2 hqx).mono ?_
  rintro e w3 ⟨rfl, hq3, hg3⟩
  have hX3 := hX1.keep (hg3.block _ hX1.lt (fun e => by cases e; omega))
  have hR3 := hRx.keep (hg3.block _ hRx.lt (fun e => by cases e; omega))
  have hw3 : Below w.heap.size w w3 := hwx.trans (below_of_grown hg3 (by omega) hwx.size)
  have x0 := hX3.c0
  have y0 := hX3.froz 0
  have wr1 := HWR.out
  go_wp2_with fail
  have hX4 : Boxed (w3.setCell ⟨X, 0, none⟩ (.int .u32 p1.1)) X p1.1 ⟨#[]⟩ ⟨#[]⟩ := heap_setCell_same w3 X 0 _ 25 _ hX3
  have hR4 := hR3.keep (heap_setCell_other w3 ⟨X, 0, none⟩ _ (.int .u32 p1.1) (by simp; omega))
  have hq4 : RS (w3.setCell ⟨X, 0, none⟩ (.int .u32 p1.1)) g d' p1.2 := setX hq3 (by omega) (by omega)
  have hw4 := below_set hw3 (Nat.le_of_lt hRl) (b := X) (j := 0) (.int .u32 p1.1)
  clear hX1 hRx hwx hX3 hR3 hq3 hg3 x0 y0 wr1 hqx hq hw1 hR1
  generalize w3.setCell ⟨X, 0, none⟩ (.int .u32 p1.1) = w4 at *
  refine (ht1.out g d' w4 hq4).mono ?_
  rintro e w5 ⟨rfl, hq5, hg5⟩
  have hX5 := hX4.keep (hg5.block _ hX4.lt (fun e => by cases e; omega))
  have hR5 := hR4.keep (hg5.block _ hR4.lt (fun e => by cases e; omega))
  have hw5 : Below w.heap.size w w5 := hw4.trans (below_of_grown hg5 (by omega) hw4.size)
  have x1 := hX5.c1
  have y1 := hX5.froz 1
  go_wp2_with fail
  have hX6 : Boxed (w5.setCell ⟨X, 1, none⟩ (.string (str8 p2.1))) X p1.1 (str8 p2.1) ⟨#[]⟩ := heap_setCell_same w5 X 1 _ 25 _ hX5
  have hR6 := hR5.keep (heap_setCell_other w5 ⟨X, 1, none⟩ _ (.string (str8 p2.1)) (by simp; omega))
  have hq6 : RS (w5.setCell ⟨X, 1, none⟩ (.string (str8 p2.1))) g d' p2.2 := setX hq5 (by omega) (by omega)
  have hw6 := below_set hw5 (Nat.le_of_lt hRl) (b := X) (j := 1) (.string (str8 p2.1))
  clear hX4 hR4 hq4 hw4 hX5 hR5 hq5 hg5 x1 y1
  generalize w5.setCell ⟨X, 1, none⟩ (.string (str8 p2.1)) = w6 at *
  refine (ht2.out g d' w6 hq6).mono ?_
  rintro e w7 ⟨rfl, hq7, hg7⟩
  have hX7 := hX6.keep (hg7.block _ hX6.lt (fun e => by cases e; omega))
  have hR7 := hR6.keep (hg7.block _ hR6.lt (fun e => by cases e; omega))
  have hw7 : Below w.heap.size w w7 := hw6.trans (below_of_grown hg7 (by omega) hw6.size)
  have x2 := hX7.c2
  have y2 := hX7.froz 2
  go_wp2_with fail
  have hX8 : Boxed (w7.setCell ⟨X, 2, none⟩ (.string (str8 p3.1))) X p1.1 (str8 p2.1) (str8 p3.1) := heap_setCell_same w7 X 2 _ 25 _ hX7
  have hR8 := hR7.keep (heap_setCell_other w7 ⟨X, 2, none⟩ _ (.string (str8 p3.1)) (by simp; omega))
  have hq8 : RS (w7.setCell ⟨X, 2, none⟩ (.string (str8 p3.1))) g d' (some rest) := setX hq7 (by omega) (by omega)
  have hw8 := below_set hw7 (Nat.le_of_lt hRl) (b := X) (j := 2) (.string (str8 p3.1))
  clear hX6 hR6 hq6 hw6 hX7 hR7 hq7 hg7 x2 y2
  generalize w7.setCell ⟨X, 2, none⟩ (.string (str8 p3.1)) = w8 at *
  refine (bad_no g d' rest w8 hq8).mono ?_
  rintro e w8' ⟨rfl, rfl⟩
  have x0 := hX8.c0
  have x1 := hX8.c1
  have x2 := hX8.c2
  go_wp2_with fail
  refine (hck.out _).mono ?_
  rintro e W ⟨rfl, hb9⟩
  have hR9 := hR8.below hb9 hR8.lt
  have hw9 := hw8.trans (hb9.mono hw8.size)
  clear x0 x1 x2 hX8 hR8 hq8 hw8 hb9
  have r5 := heap_setCell_same W w.heap.size 0 _ 25 (.int .u32 0) hR9
  have r6 := heap_setCell_same _ w.heap.size 1 _ 25 (.string ⟨#[]⟩) r5
  have r7 := heap_setCell_same _ w.heap.size 2 _ 25 (.string ⟨#[]⟩) r6
  have HR := Lib.hid r7
  have k0 := hR9.c0
  have k1 := hR9.c1
  have k2 := hR9.c2
  have f0 := hR9.froz 0
  have f1 := hR9.froz 1
  have f2 := hR9.froz 2
  clear r5 r6 r7
  go_wp2_with fail
  (try simp only [Exit.inBlock, Exit.then])
  exact bodyPost_ret (results_cell_tmp2 rfl _ _ w.heap.size 25 _ (0, 0) _ rfl HR.out Tryz.underlying25 rfl (by kernel_rfl)) rfl ⟨rfl, below_set (below_set (below_set hw9 (Nat.le_refl _) _) (Nat.le_refl _) _) (Nat.le_refl _) _⟩
set_option maxHeartbeats 4000000 in
set_option maxRecDepth 100000 in
theorem get_ok (A : Option Addr) (c d : Nat) (b : List UInt8) (w : World) (hv : Shows w d (.slice A b.length c) b) (hb : b.length ≤ 140737488355328) (rest : List UInt8) (n : Nat) (hn : (gx3 (b.take 516)).2 = some rest) (hnr : n + rest.length = (b.take 516).length) (hm : mayX (str8 (gx2 (b.take 516)).1) (str8 (gx3 (b.take 516)).1)) :
    Calls Tryz.prog 108 #[.slice A b.length c] w fun e w' => e = .returned (.tuple #[xidV (gx1 (b.take 516)).1 (str8 (gx2 (b.take 516)).1) (str8 (gx3 (b.take 516)).1), .int .i64 n, .int .i64 0]) ∧ Below w.heap.size w w' := by
  obtain ⟨F, hFe⟩ : ∃ F, F = b.take 516 := ⟨_, rfl⟩
  rw [← hFe] at hn hm hnr ⊢
  have hFl : F.length ≤ 516 := by rw [hFe]; simp; omega
  obtain ⟨_, hc1, hc2⟩ := hv.lens
  have hsh : Shows w d (.slice A F.length c) F := by
    rw [hFe]
    by_cases h : 516 ≤ b.length
    · exact hv.head_ h
    · rw [List.take_of_length_le (by omega)]; exact hv
  have hs0 : lenS (some F) ≤ 140737488355328 := by simp only [lenS]; omega
  have hs1 : lenS (gx1 F).2 ≤ 140737488355328 := Nat.le_trans (numS_lenS _ _) hs0
  have hs2 : lenS (gx2 F).2 ≤ 140737488355328 := Nat.le_trans (x_textS_lenS _ _ _) hs1
  have hopen := Lib.hid (fun v w (h : Shows w d v F) => open_any v F d w h (by omega))
  have hnum := Lib.hid (fun g d w (h : RS w g d (some F)) => num_any g d (some F) 4 w h hs0)
  have ht1 := Lib.hid (fun g d w (h : RS w g d (gx1 F).2) => text_any g d (gx1 F).2 1 255 w h hs1 (by omega) (by omega))
  have ht2 := Lib.hid (fun g d w (h : RS w g d (gx2 F).2) => text_any g d (gx2 F).2 1 255 w h hs2 (by omega) (by omega))
  rw [show numS 4 (some F) = gx1 F from rfl] at hnum
  rw [show textS 1 255 (gx1 F).2 = gx2 F from rfl] at ht1
  rw [show textS 1 255 (gx2 F).2 = gx3 F from rfl, hn] at ht2
  have hx : (gx1 F).1 < 4294967296 := numS4_lt _
  have hck := Lib.hid (fun w => x_check_ok (gx1 F).1 (str8 (gx2 F).1) (str8 (gx3 F).1) w hm)
  have HNR := Lib.hid hnr
  clear hm hnr
  unfold xidV at *
  generalize gx1 F = p1 at *
  generalize gx2 F = p2 at *
  generalize gx3 F = p3 at *
  clear hs0 hs1 hs2
  have wr1 : IntKind.u32.wrap (p1.1 : Int) = (p1.1 : Int) := by rw [IntKind.wrap_u32]; omega
  have HFE : (516 < b.length ∧ F.length = 516) ∨ (b.length ≤ 516 ∧ F.length = b.length) := by
    rw [hFe]
    rcases Nat.lt_or_ge 516 b.length with h | h
    · left; exact ⟨h, by simp; omega⟩
    · right; exact ⟨h, by rw [List.take_of_length_le h]⟩
  have HWR := Lib.hid wr1
  clear hFe wr1 hFl hn
  rcases HFE with ⟨h516, hfl⟩ | ⟨h516, hfl⟩
  case' inl => have t516 : (516 : Int) < (b.length : Int) := by omega
  case' inr => have t516 : ¬ (516 : Int) < (b.length : Int) := by omega
  all_goals
    rw [hfl] at hsh
    have HFL := Lib.hid hfl
    clear hfl
    go_enter Tryz.func108, Tryz.ntmps108
    go_wp2_with fail
    refine (hopen.out _ _ (hsh.keep (by simp) fun hp => Below.heap_alloc _ _ _ (hsh.lt hp))).mono ?_
    rintro e w1 ⟨g, d', rfl, hq, hg, ⟨_, hdg⟩, hb1⟩
    have hgl : w.heap.size < g := by simp at hg; omega
    have hglt : g < w1.heap.size := hq.lt
    have hR1 : Boxed w1 w.heap.size 0 ⟨#[]⟩ ⟨#[]⟩ := (Boxed.new w).below hb1 (by simp)
    have hw1 : Below w.heap.size w w1 := (below_box w _).trans (hb1.mono (by simp))
    clear hb1 hg hsh
    go_wp2_with fail
    have hqx : RS (w1.alloc (Obj.cells #[.int .u32 0, .string ⟨#[]⟩, .string ⟨#[]⟩] 25)) g d' (some F) := hq.keep (by simp) (Below.heap_alloc w1 _ _ hglt) (fun hd => Below.heap_alloc w1 _ _ hd)
    have hX1 : Boxed (w1.alloc (Obj.cells #[.int .u32 0, .string ⟨#[]⟩, .string ⟨#[]⟩] 25)) w1.heap.size 0 ⟨#[]⟩ ⟨#[]⟩ := Boxed.new w1
    have hRx : Boxed (w1.alloc (Obj.cells #[.int .u32 0, .string ⟨#[]⟩, .string ⟨#[]⟩] 25)) w.heap.size 0 ⟨#[]⟩ ⟨#[]⟩ := hR1.keep (Below.heap_alloc w1 _ _ hR1.lt)
    have hwx : Below w.heap.size w (w1.alloc (Obj.cells #[.int .u32 0, .string ⟨#[]⟩, .string ⟨#[]⟩] 25)) := hw1.alloc hw1.size _
    have hRl := hR1.lt
    generalize w1.alloc (Obj.cells #[.int .u32 0, .string ⟨#[]⟩, .string ⟨#[]⟩] 25) = w2 at *
    generalize w1.heap.size = X at *
    refine (hnum.out g d' w2 hqx).mono ?_
    rintro e w3 ⟨rfl, hq3, hg3⟩
    have hX3 := hX1.keep (hg3.block _ hX1.lt (fun e => by cases e; omega))
    have hR3 := hRx.keep (hg3.block _ hRx.lt (fun e => by cases e; omega))
    have hw3 : Below w.heap.size w w3 := hwx.trans (below_of_grown hg3 (by omega) hwx.size)
    have x0 := hX3.c0
    have y0 := hX3.froz 0
    have wr1 := HWR.out
    go_wp2_with fail
    have hX4 : Boxed (w3.setCell ⟨X, 0, none⟩ (.int .u32 p1.1)) X p1.1 ⟨#[]⟩ ⟨#[]⟩ := heap_setCell_same w3 X 0 _ 25 _ hX3
    have hR4 := hR3.keep (heap_setCell_other w3 ⟨X, 0, none⟩ _ (.int .u32 p1.1) (by simp; omega))
    have hq4 : RS (w3.setCell ⟨X, 0, none⟩ (.int .u32 p1.1)) g d' p1.2 := setX hq3 (by omega) (by omega)
    have hw4 := below_set hw3 (Nat.le_of_lt hRl) (b := X) (j := 0) (.int .u32 p1.1)
    clear hX1 hRx hwx hX3 hR3 hq3 hg3 x0 y0 wr1 hqx hq hw1 hR1
    generalize w3.setCell ⟨X, 0, none⟩ (.int .u32 p1.1) = w4 at *
    refine (ht1.out g d' w4 hq4).mono ?_
    rintro e w5 ⟨rfl, hq5, hg5⟩
    have hX5 := hX4.keep (hg5.block _ hX4.lt (fun e => by cases e; omega))
    have hR5 := hR4.keep (hg5.block _ hR4.lt (fun e => by cases e; omega))
    have hw5 : Below w.heap.size w w5 := hw4.trans (below_of_grown hg5 (by omega) hw4.size)
    have x1 := hX5.c1
    have y1 := hX5.froz 1
    go_wp2_with fail
    have hX6 : Boxed (w5.setCell ⟨X, 1, none⟩ (.string (str8 p2.1))) X p1.1 (str8 p2.1) ⟨#[]⟩ := heap_setCell_same w5 X 1 _ 25 _ hX5
    have hR6 := hR5.keep (heap_setCell_other w5 ⟨X, 1, none⟩ _ (.string (str8 p2.1)) (by simp; omega))
    have hq6 : RS (w5.setCell ⟨X, 1, none⟩ (.string (str8 p2.1))) g d' p2.2 := setX hq5 (by omega) (by omega)
    have hw6 := below_set hw5 (Nat.le_of_lt hRl) (b := X) (j := 1) (.string (str8 p2.1))
    clear hX4 hR4 hq4 hw4 hX5 hR5 hq5 hg5 x1 y1
    generalize w5.setCell ⟨X, 1, none⟩ (.string (str8 p2.1)) = w6 at *
    refine (ht2.out g d' w6 hq6).mono ?_
    rintro e w7 ⟨rfl, hq7, hg7⟩
    have hX7 := hX6.keep (hg7.block _ hX6.lt (fun e => by cases e; omega))
    have hR7 := hR6.keep (hg7.block _ hR6.lt (fun e => by cases e; omega))
    have hw7 : Below w.heap.size w w7 := hw6.trans (below_of_grown hg7 (by omega) hw6.size)
    have x2 := hX7.c2
    have y2 := hX7.froz 2
    go_wp2_with fail
    have hX8 : Boxed (w7.setCell ⟨X, 2, none⟩ (.string (str8 p3.1))) X p1.1 (str8 p2.1) (str8 p3.1) := heap_setCell_same w7 X 2 _ 25 _ hX7
    have hR8 := hR7.keep (heap_setCell_other w7 ⟨X, 2, none⟩ _ (.string (str8 p3.1)) (by simp; omega))
    have hq8 : RS (w7.setCell ⟨X, 2, none⟩ (.string (str8 p3.1))) g d' (some rest) := setX hq7 (by omega) (by omega)
    have hw8 := below_set hw7 (Nat.le_of_lt hRl) (b := X) (j := 2) (.string (str8 p3.1))
    clear hX6 hR6 hq6 hw6 hX7 hR7 hq7 hg7 x2 y2
    generalize w7.setCell ⟨X, 2, none⟩ (.string (str8 p3.1)) = w8 at *
    have hnr : n + rest.length = F.length := HNR.out
    have hfl := HFL.out
    refine (bad_no g d' rest w8 hq8).mono ?_
    rintro e w8' ⟨rfl, rfl⟩
    have x0 := hX8.c0
    have x1 := hX8.c1
    have x2 := hX8.c2
    have HTS : Hid ((b.length ≤ 516 → (b.length : Int) - (rest.length : Int) = (n : Int)) ∧ (516 < b.length → (516 : Int) - (rest.length : Int) = (n : Int))) := Lib.hid ⟨fun h => by omega, fun h => by omega⟩
    clear hnr hfl
    go_wp2_with fail
    refine (hck.out _).mono ?_
    rintro e w9 ⟨rfl, hb9⟩
    have hR9 := hR8.below hb9 hR8.lt
    have hX9 := hX8.below hb9 hX8.lt
    have hq9 : RS w9 g d' (some rest) := hq8.keep hb9.size (hb9.block g hq8.lt) (fun h => hb9.block d' h)
    have hw9 := hw8.trans (hb9.mono hw8.size)
    clear x0 x1 x2 hX8 hR8 hq8 hw8 hb9
    have hleft := Lib.hid (fun w (h : RS w g d' (some rest)) => left_some g d' rest w h)
    have x0 := hX9.c0
    have x1 := hX9.c1
    have x2 := hX9.c2
    have k0 := hR9.c0
    have k1 := hR9.c1
    have k2 := hR9.c2
    have f0 := hR9.froz 0
    have f1 := hR9.froz 1
    have f2 := hR9.froz 2
    have x0' : w9.drew.cell? ⟨X, 0, none⟩ = _ := x0
    have x1' : w9.drew.cell? ⟨X, 1, none⟩ = _ := x1
    have x2' : w9.drew.cell? ⟨X, 2, none⟩ = _ := x2
    have k0' : w9.drew.cell? ⟨w.heap.size, 0, none⟩ = _ := k0
    have k1' : w9.drew.cell? ⟨w.heap.size, 1, none⟩ = _ := k1
    have k2' : w9.drew.cell? ⟨w.heap.size, 2, none⟩ = _ := k2
    have hq9' : RS w9.drew g d' (some rest) := hq9.keep (Nat.le_refl _) rfl (fun _ => rfl)
    have hne : X ≠ w.heap.size := by omega
    have r5 := heap_setCell_same w9.drew w.heap.size 0 _ 25 (.int .u32 p1.1) hR9
    have r6 := heap_setCell_same _ w.heap.size 1 _ 25 (.string (str8 p2.1)) r5
    have r7 := heap_setCell_same _ w.heap.size 2 _ 25 (.string (str8 p3.1)) r6
    have HR := Lib.hid r7
    have i2 : IntKind.i64.wrap (n : Int) = (n : Int) := i64_id _ (by have := HFL.out; have := HNR.out; omega) (by have := HFL.out; have := HNR.out; omega)
    first
      | (have i1 := HTS.out.1 h516)
      | (have i1 := HTS.out.2 h516)
    clear r5 r6 r7 hR9 hX9 h516
    go_wp2_with fail
    go_region_law (first
      | (go_simp; go_at_call 107
         refine (hleft.out _ (by first | exact hq9' | exact hq9'.keep (Nat.le_refl _) rfl (fun _ => rfl))).mono ?_
         rintro e wl ⟨rfl, rfl⟩))
    all_goals
      go_wp2_with fail
      (try simp only [Exit.inBlock, Exit.then])
      exact bodyPost_ret (results_cell_tmp2 rfl _ _ w.heap.size 25 _ (0, 0) _ rfl HR.out Tryz.underlying25 rfl (by kernel_rfl)) rfl ⟨rfl, below_set (below_set (below_set (below_drew1 hw9) (Nat.le_refl _) _) (Nat.le_refl _) _) (Nat.le_refl _) _⟩
end Go.Proofs.YtdklhcmoilcpgaaGreat
namespace Go.Proofs.YtdklhcmoilcpgaaGreat
open Go.RowKit
theorem be1 (n : Nat) : be 1 n = [UInt8.ofNat n] := by simp [be]
set_option maxHeartbeats 2000000 in
set_option maxRecDepth 100000 in
theorem x_put_ok (f : Nat) (g h : ByteArray) (w : World) (hm : mayX g h) (hf : f < 4294967296) :
    Calls Tryz.prog 50 #[xidV f g h] w fun e w' => ∃ v, e = .returned (.tuple #[v, .int .i64 0]) ∧ Own 5 w' w.heap.size v (encX f g h) ∧ Below w.heap.size w w' := by
  have hck := Lib.hid (fun w => x_check_ok f g h w hm)
  obtain ⟨m1, m2, m3⟩ := hm
  have hput0 := fun w => put_any (.slice none 0 0) [] 0 f 4 w (Shows.nil_ _ _) (by simp)
  rw [List.nil_append, show wd 4 = 4 from rfl] at hput0
  have sF := be_length 4 f
  have hx1 := Lib.hid (fun v l d w (hv : Shows w d v l) (hl : l.length ≤ 1000) => putText_ok1 v l d g w hv (by omega) (by omega))
  have hx2 := Lib.hid (fun v l d w (hv : Shows w d v l) (hl : l.length ≤ 1000) => putText_ok1 v l d h w hv (by omega) (by omega))
  have HE := Lib.hid (show encX f g h = be 4 f ++ (be 1 g.size ++ sb g) ++ (be 1 h.size ++ sb h) by rw [be1, be1]; unfold encX; simp)
  have wf : IntKind.u64.wrap (f : Int) = (f : Int) := by rw [IntKind.wrap_u64]; omega
  unfold xidV at *
  generalize encX f g h = T at *
  generalize be 4 f = F at *
  have sG : (be 1 g.size ++ sb g).length ≤ 65 := by rw [be1]; simp [sb_length]; omega
  generalize be 1 g.size ++ sb g = G at *
  generalize be 1 h.size ++ sb h = H at *
  have HP := Lib.hid hput0
  have SF := Lib.hid sF
  clear hput0 sF
  go_enter Tryz.func50, Tryz.ntmps50
  go_wp2_with fail
  refine (hck.out _).mono ?_
  rintro e w1 ⟨rfl, hb1⟩
  have hbx1 : Boxed w1 w.heap.size f g h := (Boxed.new w).below hb1 (by simp)
  have hw1 : Below w.heap.size w w1 := (below_box w _).trans (hb1.mono (by simp))
  have hz1 : w.heap.size < w1.heap.size := hbx1.lt
  have k0 : w1.drew.cell? ⟨w.heap.size, 0, none⟩ = _ := hbx1.c0
  have k1 : w1.drew.cell? ⟨w.heap.size, 1, none⟩ = _ := hbx1.c1
  have k0' : w1.cell? ⟨w.heap.size, 0, none⟩ = _ := hbx1.c0
  have k1' : w1.cell? ⟨w.heap.size, 1, none⟩ = _ := hbx1.c1
  clear hb1
  go_wp2_with fail
  go_region_law (first
    | (go_simp; go_at_call 48
       with_reducible refine (HP.out _).mono ?_
       rintro e w2 ⟨v2, rfl, ho2, hb2⟩
       have hb2' : Below w1.heap.size w1 w2 := (below_drew1 (Below.refl _ _)).trans hb2
       have hbx2 : Boxed w2 w.heap.size f g h := hbx1.below hb2' hz1
       have k21 := hbx2.c1
       have hw2 : Below w.heap.size w w2 := hw1.trans (hb2'.mono hw1.size)
       obtain ⟨q2, _, sh2⟩ := ho2.shows)
    | (go_simp; go_at_call 92
       with_reducible refine (hx1.out _ _ _ _ sh2 (by rw [SF.out]; omega)).mono ?_
       rintro e w3 ⟨v3, rfl, ho3, hb3⟩
       have hbx3 : Boxed w3 w.heap.size f g h := hbx2.below hb3 hbx2.lt
       have k32 := hbx3.c2
       have hw3 : Below w.heap.size w w3 := hw2.trans (hb3.mono hw2.size)
       obtain ⟨q3, _, sh3⟩ := ho3.shows))
  all_goals
    go_wp2_with fail
    refine (hx2.out _ _ _ _ sh3 (by rw [List.length_append, SF.out]; omega)).mono ?_
    rintro e w4 ⟨v4, rfl, ho4, hb4⟩
    have hw4 : Below w.heap.size w w4 := hw3.trans (hb4.mono hw3.size)
    go_wp2_with fail
    go_ret2
    exact ⟨_, rfl, by rw [HE.out]; exact ho4.mono hw3.size, hw4⟩
end Go.Proofs.YtdklhcmoilcpgaaGreat
