/-
  Texts, together: Ref04A, Ref04B, Ref04C, Ref04D, Ref04G.
  Conditions: none but sizes.
-/
import Derived.BigQuiet
import Derived.Test.YtdklhcmoilcpgaaGreatMemZ
import Derived.Test.YtdklhcmoilcpgaaGreatBigZ
import Derived.Test.YtdklhcmoilcpgaaGreatOctBigZ
import Derived.Deep.RegionLaw
import Derived.Laws.BitsAllLaws
import Derived.Test.YtdklhcmoilcpgaaGreatRefRdZ
set_option linter.unusedVariables false
set_option linter.unusedSimpArgs false
namespace Go.Proofs.YtdklhcmoilcpgaaGreat
open Go.RowKit
def xidV (f : Nat) (g h : ByteArray) : Value := .agg #[.int .u32 f, .string g, .string h]
def mayX (g h : ByteArray) : Prop := 1 ≤ g.size ∧ g.size ≤ 64 ∧ h.size ≤ 64
instance (g h : ByteArray) : Decidable (mayX g h) := by unfold mayX; infer_instance
theorem below_box (w : World) (o : Obj) : Below w.heap.size w (w.alloc o) := (Below.refl _ _).alloc (Nat.le_refl _) _
theorem qcheck_ok (f : Nat) (g h : ByteArray) (w : World) (hm : mayX g h) :
  Calls Tryz.prog 60 #[xidV f g h] w fun e w' => e = .returned (.int .i64 0) ∧ Below w.heap.size w w' := by
 obtain ⟨h1, h2, h3⟩ := hm
 unfold xidV
 have t1 : decide ((g.size : Int) < 1) = false := by simp; omega
 have t2 : decide ((64 : Int) < g.size) = false := by simp; omega
 have t3 : decide ((64 : Int) < h.size) = false := by simp; omega
 clear h1 h2 h3
 go_enter Tryz.func60, Tryz.ntmps60
 go_wp2_with fail
 go_ret
 exact ⟨rfl, below_box _ _⟩
theorem qcheck_no (f : Nat) (g h : ByteArray) (w : World) (hm : ¬ mayX g h) (hg : g.size ≤ 140737488355328) (hh : h.size ≤ 140737488355328) :
  Calls Tryz.prog 60 #[xidV f g h] w fun e w' => e = .returned (.int .i64 40) ∧ Below w.heap.size w w' := by
 unfold xidV
 have hm' : g.size < 1 ∨ 64 < g.size ∨ 64 < h.size := by unfold mayX at hm; omega
 by_cases c1 : g.size < 1
 case' pos => have t1 : decide ((g.size : Int) < 1) = true := by simp; omega
 case' neg =>
  have t1 : decide ((g.size : Int) < 1) = false := by simp; omega
  by_cases c2 : 64 < g.size
  case' pos => have t2 : decide ((64 : Int) < g.size) = true := by simp; omega
  case' neg =>
   have t2 : decide ((64 : Int) < g.size) = false := by simp; omega
   have t3 : decide ((64 : Int) < h.size) = true := by simp; omega
 all_goals
  clear hm hm'
  try clear c1
  try clear c2
  go_enter Tryz.func60, Tryz.ntmps60
  go_wp2_with fail
  go_ret
  exact ⟨rfl, below_box _ _⟩
def signD (n : Nat) : Nat := if n < 10 then 48 + n else 87 + n
def numD (c : Nat) : Nat := if 48 ≤ c ∧ c ≤ 57 then c - 48 else if 97 ≤ c ∧ c ≤ 102 then c - 87 else 16
def lessD : List UInt8 → List UInt8 → Bool
  | [], [] => false
  | [], _ :: _ => true
  | _ :: _, [] => false
  | x :: a, y :: b => if x ≠ y then decide (x.toNat < y.toNat) else lessD a b
def aheadD (f1 f2 : Nat) (g1 h1 g2 h2 : ByteArray) : Bool :=
  if f1 ≠ f2 then decide (f1 < f2) else if g1 ≠ g2 then lessD (sb g1) (sb g2) else lessD (sb h1) (sb h2)
def compareD (f1 f2 : Nat) (g1 h1 g2 h2 : ByteArray) : Int :=
  if f1 = f2 ∧ g1 = g2 ∧ h1 = h2 then 0 else if aheadD f1 f2 g1 h1 g2 h2 then -1 else 1
theorem toList_ne {a b : ByteArray} (h : a ≠ b) : ¬ a.toList = b.toList := fun e => h (by rw [← str8_sb a, ← str8_sb b, ← sb_toList, ← sb_toList, e])
end Go.Proofs.YtdklhcmoilcpgaaGreat
namespace Go.Proofs.YtdklhcmoilcpgaaGreat
open Go.RowKit
def digD (n : Nat) : List UInt8 := if n < 10 then [UInt8.ofNat (48 + n)] else digD (n / 10) ++ [UInt8.ofNat (48 + n % 10)]
theorem lit1 (d : Nat) (h : d < 256) : (#[Value.int IntKind.u8 d] : Array Value) = (bs [UInt8.ofNat d]).toArray := by
 simp [bs, u8c, Nat.mod_eq_of_lt h]
end Go.Proofs.YtdklhcmoilcpgaaGreat
namespace Go.Proofs.YtdklhcmoilcpgaaGreat
open Go.RowKit
def hexD (l : List UInt8) : List UInt8 := l.flatMap fun b => [UInt8.ofNat (signD (b.toNat / 16)), UInt8.ofNat (signD (b.toNat % 16))]
theorem Own.alloc8 {e : TypeId} {w : World} {base : Nat} {v : Value} {l : List UInt8} (h : Own e w base v l) (o : Obj) : Own e (w.alloc o) base v l :=
 h.keep fun g hg => Below.heap_alloc _ _ _ (h.block g hg).2
end Go.Proofs.YtdklhcmoilcpgaaGreat
namespace Go.Proofs.YtdklhcmoilcpgaaGreat
open Go.RowKit
def Boxed (w : World) (b f : Nat) (g h : ByteArray) : Prop := w.heap[b]? = some (.cells #[.int .u32 f, .string g, .string h] 25 (0, 0))
section
variable {w w' : World} {b f : Nat} {g h : ByteArray}
theorem Boxed.lt (hb : Boxed w b f g h) : b < w.heap.size := (Array.getElem?_eq_some_iff.1 hb).1
theorem Boxed.c0 (hb : Boxed w b f g h) : w.cell? ⟨b, 0, none⟩ = some (.int .u32 f) := by rw [cell_of_row w b _ _ 25 (0, 0) hb]; rfl
theorem Boxed.c1 (hb : Boxed w b f g h) : w.cell? ⟨b, 1, none⟩ = some (.string g) := by rw [cell_of_row w b _ _ 25 (0, 0) hb]; rfl
theorem Boxed.c2 (hb : Boxed w b f g h) : w.cell? ⟨b, 2, none⟩ = some (.string h) := by rw [cell_of_row w b _ _ 25 (0, 0) hb]; rfl
theorem Boxed.keep (hb : Boxed w b f g h) (hk : w'.heap[b]? = w.heap[b]?) : Boxed w' b f g h := hk.trans hb
theorem Boxed.below {B : Nat} (hb : Boxed w b f g h) (hk : Below B w w') (hl : b < B) : Boxed w' b f g h := (hk.block b hl).trans hb
theorem Boxed.new (w : World) : Boxed (w.alloc (Obj.cells #[.int .u32 f, .string g, .string h] 25)) w.heap.size f g h := heap_alloc_new w _
end
def encX (f : Nat) (g h : ByteArray) : List UInt8 := be 4 f ++ [UInt8.ofNat g.size] ++ sb g ++ [UInt8.ofNat h.size] ++ sb h
theorem qputX_ok (f : Nat) (g h : ByteArray) (w : World) (hm : mayX g h) (hf : f < 4294967296) :
    Calls Tryz.prog 26 #[xidV f g h] w fun e w' => ∃ v, e = .returned (.tuple #[v, .int .i64 0]) ∧ Own 5 w' w.heap.size v (encX f g h) ∧ Below w.heap.size w w' := by
  have hck := Lib.hid (fun w => qcheck_ok f g h w hm)
  have hnum := Lib.hid (fun w => number_any 4 f w (by omega) (by omega))
  obtain ⟨m1, m2, m3⟩ := hm
  unfold xidV at *
  have i1 : IntKind.u8.wrap (g.size : Int) = (g.size : Int) := by rw [IntKind.wrap_u8]; omega
  have i2 : IntKind.u8.wrap (h.size : Int) = (h.size : Int) := by rw [IntKind.wrap_u8]; omega
  go_enter Tryz.func26, Tryz.ntmps26
  go_wp2_with fail
  refine (hck.out _).mono ?_
  rintro e w1 ⟨rfl, hb1⟩
  have hbx1 : Boxed w1 w.heap.size f g h := (Boxed.new w).below hb1 (by simp)
  have hw1 : Below w.heap.size w w1 := (below_box w _).trans (hb1.mono (by simp))
  have k0 := hbx1.c0
  go_wp2_with fail
  refine (hnum.out _).mono ?_
  rintro e w2 ⟨v2, rfl, ho2, hb2⟩
  have hbx2 := hbx1.below hb2 hbx1.lt
  have hw2 := hw1.trans (hb2.mono hw1.size)
  have hlt : w.heap.size < w1.heap.size := hbx1.lt
  have hz1 := hb2.size
  generalize w1.heap.size = B at *
  clear hb2 hbx1 k0 hb1
  have k1 := hbx2.c1
  have hl2 := be_length 4 f
  have HE := Lib.hid (show encX f g h = be 4 f ++ [UInt8.ofNat g.size] ++ sb g ++ [UInt8.ofNat h.size] ++ sb h from rfl)
  generalize be 4 f = r2 at *
  have hg8 := sb_length g
  have hh8 := sb_length h
  go_wp2_with (first
    | (at_builtin
       refine wpList_append8 _ rfl (.tmp 12) (.tmp 17) 50 rfl B 5 Tryz.underlying50 info5 v2 r2 rfl (ho2.alloc8 _) w2.heap.size (.slice (some ⟨w2.heap.size, 0, none⟩) 1 1) [UInt8.ofNat g.size] rfl (Shows.lit (w := w2) [UInt8.ofNat g.size] (lit1 g.size (by omega)) (by simp [maxLen])) (by simp; omega) (by simp; omega) ?_
       intro v3 w3 ho3 hg3
       have hbx3 : Boxed w3 w.heap.size f g h := hbx2.keep ((hg3.block _ (by simp; omega) (fun e => by have := (ho2.block _ e.symm).1; omega)).trans (Below.heap_alloc _ _ _ hbx2.lt))
       have hz3 : w2.heap.size < w3.heap.size := by have := hg3.size; simp at this; omega
       have hw3 : Below w.heap.size w w3 := (hw2.alloc hw2.size _).grown hg3 (by simp; omega) (fun q hq => by have := (ho2.block q hq).1; omega)
       have k3 := hbx3.c1)
    | (at_builtin
       refine wpList_append8s _ rfl (.tmp 19) (.tmp 21) 50 9 rfl B 5 Tryz.underlying50 Tryz.underlying9 info5 v3 (r2 ++ [UInt8.ofNat g.size]) rfl ho3 g rfl (by simp; omega) (by omega) ?_
       intro v4 w4 ho4 hg4
       have hbx4 : Boxed w4 w.heap.size f g h := hbx3.keep (hg4.block _ hbx3.lt (fun e => by have := (ho3.block _ e.symm).1; omega))
       have hz4 : w3.heap.size ≤ w4.heap.size := hg4.size
       have hw4 : Below w.heap.size w w4 := hw3.grown hg4 hw3.size (fun q hq => by have := (ho3.block q hq).1; omega)
       have k4 := hbx4.c2)
    | (at_builtin
       refine wpList_append8 _ rfl (.tmp 23) (.tmp 28) 50 rfl B 5 Tryz.underlying50 info5 v4 (r2 ++ [UInt8.ofNat g.size] ++ sb g) rfl (ho4.alloc8 _) w4.heap.size (.slice (some ⟨w4.heap.size, 0, none⟩) 1 1) [UInt8.ofNat h.size] rfl (Shows.lit (w := w4) [UInt8.ofNat h.size] (lit1 h.size (by omega)) (by simp [maxLen])) (by simp; omega) (by simp; omega) ?_
       intro v5 w5 ho5 hg5
       have hbx5 : Boxed w5 w.heap.size f g h := hbx4.keep ((hg5.block _ (by simp; have := hbx4.lt; omega) (fun e => by have := (ho4.block _ e.symm).1; omega)).trans (Below.heap_alloc _ _ _ hbx4.lt))
       have hz5 : w4.heap.size < w5.heap.size := by have := hg5.size; simp at this; omega
       have hw5 : Below w.heap.size w w5 := (hw4.alloc hw4.size _).grown hg5 (by simp; omega) (fun q hq => by have := (ho4.block q hq).1; omega)
       have k5 := hbx5.c2)
    | (at_builtin
       refine wpList_append8s _ rfl (.tmp 30) (.tmp 32) 50 9 rfl B 5 Tryz.underlying50 Tryz.underlying9 info5 v5 (r2 ++ [UInt8.ofNat g.size] ++ sb g ++ [UInt8.ofNat h.size]) rfl ho5 h rfl (by simp; omega) (by omega) ?_
       intro v6 w6 ho6 hg6
       have hw6 : Below w.heap.size w w6 := hw5.grown hg6 hw5.size (fun q hq => by have := (ho5.block q hq).1; omega)))
  go_ret2
  exact ⟨_, rfl, by rw [HE.out]; exact ho6.mono (by omega), hw6⟩
end Go.Proofs.YtdklhcmoilcpgaaGreat
namespace Go.Proofs.YtdklhcmoilcpgaaGreat
open Go.RowKit
def gx1 (b : List UInt8) : Nat × Option (List UInt8) := numS 4 (some b)
def gx2 (b : List UInt8) : List UInt8 × Option (List UInt8) := textS 1 255 (gx1 b).2
def gx3 (b : List UInt8) : List UInt8 × Option (List UInt8) := textS 1 255 (gx2 b).2
theorem x_takeS_fst_le (n : Int) (s : Option (List UInt8)) : (takeS n s).1.length ≤ lenS s := by
 cases s with
 | none => simp [takeS]
 | some l => simp only [takeS, lenS]; split <;> simp <;> omega
theorem x_textT_lenS (m : Int) (p : Nat × Option (List UInt8)) : lenS (textT m p).2 ≤ lenS p.2 := by
 unfold textT
 by_cases h : m < 0 ∨ m < p.1
 ·rw [if_pos h]; exact takeS_lenS _ _
 ·rw [if_neg h]; exact takeS_lenS _ _
theorem x_textS_lenS (q m : Int) (s : Option (List UInt8)) : lenS (textS q m s).2 ≤ lenS s := Nat.le_trans (x_textT_lenS _ _) (numS_lenS _ _)
theorem x_textT_fst_le (m : Int) (p : Nat × Option (List UInt8)) : (textT m p).1.length ≤ lenS p.2 := by
 unfold textT
 by_cases h : m < 0 ∨ m < p.1
 ·rw [if_pos h]; simp
 ·rw [if_neg h]; exact x_takeS_fst_le _ _
theorem x_textS_fst_le (q m : Int) (s : Option (List UInt8)) : (textS q m s).1.length ≤ lenS s := Nat.le_trans (x_textT_fst_le _ _) (numS_lenS _ _)
theorem Boxed.froz {w : World} {b f : Nat} {g h : ByteArray} (hb : Boxed w b f g h) (i : Nat) : w.frozen? ⟨b, i, none⟩ = false := frozen_of_row w b i _ 25 hb
theorem results_cell_tmp2 {P : Program} {fn : Func} {p u v : Tmp} {ty : TypeId} (h : fn.results = #[.cell p ty, .tmp u, .tmp v]) (tmps : Array Value) (w : World) (g : Nat) (t : TypeId) (cs : Array Value) (fr : Nat × Nat) (d : TypeDesc)
  (hp : tmps.getD p undef = .pointer (some ⟨g, 0, none⟩)) (hg : w.heap[g]? = some (.cells cs t fr))
  (hu : P.underlying ty = some d) (hd : (match d with | .struct _ | .array _ _ => true | _ => false) = true) (hi : (P.info? ty).map (·.size) = some cs.size) :
  (results fn tmps).run P w = .ok (.tuple #[.agg cs, tmps.getD u undef, tmps.getD v undef]) w := by
 have hp' : tmps[p]?.getD undef = .pointer (some ⟨g, 0, none⟩) := by simpa using hp
 simp [results, h, hp', asAddr, run_loadVar_row w g t ty cs fr d hg hu hd hi]
set_option maxHeartbeats 800000 in
theorem qgetX_short (v : Value) (d0 : Nat) (b : List UInt8) (w : World) (hv : Shows w d0 v b) (hb : b.length ≤ 140737488355328) (hn : (gx3 b).2 = none) :
  Calls Tryz.prog 40 #[v] w fun e w' => e = .returned (.tuple #[xidV 0 ByteArray.empty ByteArray.empty, .int .i64 0, .int .i64 4]) ∧ Below w.heap.size w w' := by
 have hs1 : lenS (gx1 b).2 ≤ 140737488355328 := Nat.le_trans (numS_lenS _ _) hb
 have hs2 : lenS (gx2 b).2 ≤ 140737488355328 := Nat.le_trans (x_textS_lenS _ _ _) hs1
 have hopen := Lib.hid (fun w (h : Shows w d0 v b) => qopen_any v b d0 w h hb)
 have hnum := Lib.hid (fun g d w (h : QS w g d (some b)) => qnum_any g d (some b) 4 w h hb)
 have ht1 := Lib.hid (fun g d w (h : QS w g d (gx1 b).2) => qtext_any g d (gx1 b).2 1 255 w h hs1 (by omega) (by omega))
 have ht2 := Lib.hid (fun g d w (h : QS w g d (gx2 b).2) => qtext_any g d (gx2 b).2 1 255 w h hs2 (by omega) (by omega))
 rw [show numS 4 (some b) = gx1 b from rfl] at hnum
 rw [show textS 1 255 (gx1 b).2 = gx2 b from rfl] at ht1
 rw [show textS 1 255 (gx2 b).2 = gx3 b from rfl, hn] at ht2
 generalize gx1 b = p1 at *
 generalize gx2 b = p2 at *
 generalize gx3 b = p3 at *
 clear hn hs1 hs2
 go_enter Tryz.func40, Tryz.ntmps40
 go_wp2_with fail
 refine (hopen.out _ (hv.keep (by simp) fun hp => Below.heap_alloc _ _ _ (hv.lt hp))).mono ?_
 rintro e w1 ⟨g, d, rfl, hq, hg, _, hb1⟩
 have hgl : w.heap.size < g := by simp at hg; omega
 have hR1 : Boxed w1 w.heap.size 0 ⟨#[]⟩ ⟨#[]⟩ := (Boxed.new w).below hb1 (by simp)
 have hw1 : Below w.heap.size w w1 := (below_box w _).trans (hb1.mono (by simp))
 clear hb1 hg
 go_wp2_with fail
 refine (hnum.out g d w1 hq).mono ?_
 rintro e w2 ⟨rfl, hq2, hg2⟩
 go_wp2_with fail
 refine (ht1.out g d w2 hq2).mono ?_
 rintro e w3 ⟨rfl, hq3, hg3⟩
 go_wp2_with fail
 refine (ht2.out g d w3 hq3).mono ?_
 rintro e w4 ⟨rfl, hq4, hg4⟩
 have hR4 : Boxed w4 w.heap.size 0 ⟨#[]⟩ ⟨#[]⟩ := by
  have hR2 := hR1.keep (hg2.block _ hR1.lt (fun e => by cases e; omega))
  have hR3 := hR2.keep (hg3.block _ hR2.lt (fun e => by cases e; omega))
  exact hR3.keep (hg4.block _ hR3.lt (fun e => by cases e; omega))
 have hw4 : Below w.heap.size w w4 := by
  have h2 := hw1.trans (below_of_grown hg2 (by omega) hw1.size)
  have h3 := h2.trans (below_of_grown hg3 (by omega) h2.size)
  exact h3.trans (below_of_grown hg4 (by omega) h3.size)
 have k0 := hR4.c0
 have k1 := hR4.c1
 have k2 := hR4.c2
 have f0 := hR4.froz 0
 have f1 := hR4.froz 1
 have f2 := hR4.froz 2
 have h4 : w4.heap[g]? = some (.cells #[.slice none 0 0, .bool true] 85 (0, 0)) := hq4
 have c1 : w4.cell? ⟨g, 1, none⟩ = some (.bool true) := by rw [cell_of_row w4 g 1 _ 85 (0, 0) h4]; rfl
 go_wp2_with fail
 have r4 : w4.heap[w.heap.size]? = some (.cells #[.int .u32 (0 : Nat), .string ⟨#[]⟩, .string ⟨#[]⟩] 25 (0, 0)) := hR4
 have r5 := heap_setCell_same w4 w.heap.size 0 _ 25 (.int .u32 0) r4
 have r6 := heap_setCell_same _ w.heap.size 1 _ 25 (.string ⟨#[]⟩) r5
 have r7 := heap_setCell_same _ w.heap.size 2 _ 25 (.string ⟨#[]⟩) r6
 (try simp only [Exit.inBlock, Exit.then])
 refine bodyPost_ret (results_cell_tmp2 rfl _ _ w.heap.size 25 _ (0, 0) _ rfl r7 Tryz.underlying25 rfl (by kernel_rfl)) rfl ⟨rfl, below_set (below_set (below_set hw4 (Nat.le_refl _) _) (Nat.le_refl _) _) (Nat.le_refl _) _⟩
theorem numS4_lt (s : Option (List UInt8)) : (numS 4 s).1 < 4294967296 := by
 unfold numS
 rw [if_pos (by decide)]
 have h1 := numOf_lt (takeS 4 s).1
 have h2 : (takeS 4 s).1.length ≤ 4 := by
  cases s with
  | none => simp [takeS]
  | some l => simp only [takeS]; split <;> simp <;> omega
 have h3 : 256 ^ (takeS 4 s).1.length ≤ 256 ^ 4 := Nat.pow_le_pow_right (by omega) h2
 exact Nat.lt_of_lt_of_le h1 (Nat.le_trans h3 (by decide))
set_option maxHeartbeats 1600000 in
theorem qgetX_bad (v : Value) (d0 : Nat) (b rest : List UInt8) (w : World) (hv : Shows w d0 v b) (hb : b.length ≤ 140737488355328) (hn : (gx3 b).2 = some rest) (hm : ¬ mayX (str8 (gx2 b).1) (str8 (gx3 b).1)) :
  Calls Tryz.prog 40 #[v] w fun e w' => e = .returned (.tuple #[xidV 0 ByteArray.empty ByteArray.empty, .int .i64 0, .int .i64 40]) ∧ Below w.heap.size w w' := by
 have hx : (gx1 b).1 < 4294967296 := numS4_lt _
 have hy2 : (gx2 b).1.length ≤ b.length := Nat.le_trans (x_textS_fst_le _ _ _) (numS_lenS _ _)
 have hy3 : (gx3 b).1.length ≤ b.length := Nat.le_trans (x_textS_fst_le _ _ _) (Nat.le_trans (x_textS_lenS _ _ _) (numS_lenS _ _))
 have hck := Lib.hid (fun w => qcheck_no (gx1 b).1 (str8 (gx2 b).1) (str8 (gx3 b).1) w hm (by rw [str8_size]; omega) (by rw [str8_size]; omega))
 clear hy2 hy3
 have hs1 : lenS (gx1 b).2 ≤ 140737488355328 := Nat.le_trans (numS_lenS _ _) hb
 have hs2 : lenS (gx2 b).2 ≤ 140737488355328 := Nat.le_trans (x_textS_lenS _ _ _) hs1
 have hopen := Lib.hid (fun w (h : Shows w d0 v b) => qopen_any v b d0 w h hb)
 have hnum := Lib.hid (fun g d w (h : QS w g d (some b)) => qnum_any g d (some b) 4 w h hb)
 have ht1 := Lib.hid (fun g d w (h : QS w g d (gx1 b).2) => qtext_any g d (gx1 b).2 1 255 w h hs1 (by omega) (by omega))
 have ht2 := Lib.hid (fun g d w (h : QS w g d (gx2 b).2) => qtext_any g d (gx2 b).2 1 255 w h hs2 (by omega) (by omega))
 rw [show numS 4 (some b) = gx1 b from rfl] at hnum
 rw [show textS 1 255 (gx1 b).2 = gx2 b from rfl] at ht1
 rw [show textS 1 255 (gx2 b).2 = gx3 b from rfl, hn] at ht2
 clear hn hm
 unfold xidV at *
 generalize gx1 b = p1 at *
 generalize gx2 b = p2 at *
 generalize gx3 b = p3 at *
 clear hs1 hs2
 go_enter Tryz.func40, Tryz.ntmps40
 go_wp2_with fail
 refine (hopen.out _ (hv.keep (by simp) fun hp => Below.heap_alloc _ _ _ (hv.lt hp))).mono ?_
 rintro e w1 ⟨g, d, rfl, hq, hg, _, hb1⟩
 have hgl : w.heap.size < g := by simp at hg; omega
 have hR1 : Boxed w1 w.heap.size 0 ⟨#[]⟩ ⟨#[]⟩ := (Boxed.new w).below hb1 (by simp)
 have hw1 : Below w.heap.size w w1 := (below_box w _).trans (hb1.mono (by simp))
 clear hb1 hg
 go_wp2_with fail
 refine (hnum.out g d w1 hq).mono ?_
 rintro e w2 ⟨rfl, hq2, hg2⟩
 go_wp2_with fail
 refine (ht1.out g d w2 hq2).mono ?_
 rintro e w3 ⟨rfl, hq3, hg3⟩
 go_wp2_with fail
 refine (ht2.out g d w3 hq3).mono ?_
 rintro e w4 ⟨rfl, hq4, hg4⟩
 have hR4 : Boxed w4 w.heap.size 0 ⟨#[]⟩ ⟨#[]⟩ := by
  have hR2 := hR1.keep (hg2.block _ hR1.lt (fun e => by cases e; omega))
  have hR3 := hR2.keep (hg3.block _ hR2.lt (fun e => by cases e; omega))
  exact hR3.keep (hg4.block _ hR3.lt (fun e => by cases e; omega))
 have hw4 : Below w.heap.size w w4 := by
  have h2 := hw1.trans (below_of_grown hg2 (by omega) hw1.size)
  have h3 := h2.trans (below_of_grown hg3 (by omega) h2.size)
  exact h3.trans (below_of_grown hg4 (by omega) h3.size)
 have k0 := hR4.c0
 have k1 := hR4.c1
 have k2 := hR4.c2
 have f0 := hR4.froz 0
 have f1 := hR4.froz 1
 have f2 := hR4.froz 2
 have hq4' := hq4
 obtain ⟨A, c, h4, hsh4⟩ := hq4
 have c1 : w4.cell? ⟨g, 1, none⟩ = some (.bool false) := by rw [cell_of_row w4 g 1 _ 85 (0, 0) h4]; rfl
 have wr1 : IntKind.u32.wrap (p1.1 : Int) = (p1.1 : Int) := by rw [IntKind.wrap_u32]; omega
 clear k0 k1 k2 f0 f1 f2
 go_wp2_with fail
 refine (hck.out _).mono ?_
 rintro e w5 ⟨rfl, hb5⟩
 have hR5 : Boxed w5 w.heap.size 0 ⟨#[]⟩ ⟨#[]⟩ := (hR4.keep (Below.heap_alloc w4 _ _ hR4.lt)).below hb5 (by have := hR4.lt; simp; omega)
 have hw5 : Below w.heap.size w w5 := (hw4.alloc hw4.size _).trans (hb5.mono (by have := hw4.size; simp; omega))
 have k0 := hR5.c0
 have k1 := hR5.c1
 have k2 := hR5.c2
 have f0 := hR5.froz 0
 have f1 := hR5.froz 1
 have f2 := hR5.froz 2
 have r4 : w5.heap[w.heap.size]? = some (.cells #[.int .u32 (0 : Nat), .string ⟨#[]⟩, .string ⟨#[]⟩] 25 (0, 0)) := hR5
 have r5 := heap_setCell_same w5 w.heap.size 0 _ 25 (.int .u32 0) r4
 have r6 := heap_setCell_same _ w.heap.size 1 _ 25 (.string ⟨#[]⟩) r5
 have r7 := heap_setCell_same _ w.heap.size 2 _ 25 (.string ⟨#[]⟩) r6
 have HR := Lib.hid r7
 clear r4 r5 r6 r7 hR5 hR4
 go_wp2_with fail
 (try simp only [Exit.inBlock, Exit.then])
 refine bodyPost_ret (results_cell_tmp2 rfl _ _ w.heap.size 25 _ (0, 0) _ rfl HR.out Tryz.underlying25 rfl (by kernel_rfl)) rfl ⟨rfl, below_set (below_set (below_set hw5 (Nat.le_refl _) _) (Nat.le_refl _) _) (Nat.le_refl _) _⟩
set_option maxHeartbeats 1600000 in
theorem qgetX_ok (v : Value) (d0 : Nat) (b rest : List UInt8) (w : World) (hv : Shows w d0 v b) (hb : b.length ≤ 140737488355328) (hn : (gx3 b).2 = some rest) (hm : mayX (str8 (gx2 b).1) (str8 (gx3 b).1)) :
  Calls Tryz.prog 40 #[v] w fun e w' => e = .returned (.tuple #[xidV (gx1 b).1 (str8 (gx2 b).1) (str8 (gx3 b).1), .int .i64 ((b.length : Int) - (rest.length : Int)), .int .i64 0]) ∧ Below w.heap.size w w' := by
 have hx : (gx1 b).1 < 4294967296 := numS4_lt _
 have hy2 : (gx2 b).1.length ≤ b.length := Nat.le_trans (x_textS_fst_le _ _ _) (numS_lenS _ _)
 have hy3 : (gx3 b).1.length ≤ b.length := Nat.le_trans (x_textS_fst_le _ _ _) (Nat.le_trans (x_textS_lenS _ _ _) (numS_lenS _ _))
 have hrl : rest.length ≤ 140737488355328 := by
  have h1 := x_textS_lenS 1 255 (gx2 b).2
  rw [show textS 1 255 (gx2 b).2 = gx3 b from rfl, hn] at h1
  exact Nat.le_trans h1 (Nat.le_trans (x_textS_lenS _ _ _) (Nat.le_trans (numS_lenS _ _) hb))
 have hck := Lib.hid (fun w => qcheck_ok (gx1 b).1 (str8 (gx2 b).1) (str8 (gx3 b).1) w hm)
 clear hy2 hy3
 have hs1 : lenS (gx1 b).2 ≤ 140737488355328 := Nat.le_trans (numS_lenS _ _) hb
 have hs2 : lenS (gx2 b).2 ≤ 140737488355328 := Nat.le_trans (x_textS_lenS _ _ _) hs1
 have hopen := Lib.hid (fun w (h : Shows w d0 v b) => qopen_any v b d0 w h hb)
 have hnum := Lib.hid (fun g d w (h : QS w g d (some b)) => qnum_any g d (some b) 4 w h hb)
 have ht1 := Lib.hid (fun g d w (h : QS w g d (gx1 b).2) => qtext_any g d (gx1 b).2 1 255 w h hs1 (by omega) (by omega))
 have ht2 := Lib.hid (fun g d w (h : QS w g d (gx2 b).2) => qtext_any g d (gx2 b).2 1 255 w h hs2 (by omega) (by omega))
 rw [show numS 4 (some b) = gx1 b from rfl] at hnum
 rw [show textS 1 255 (gx1 b).2 = gx2 b from rfl] at ht1
 rw [show textS 1 255 (gx2 b).2 = gx3 b from rfl, hn] at ht2
 clear hn hm
 unfold xidV at *
 generalize gx1 b = p1 at *
 generalize gx2 b = p2 at *
 generalize gx3 b = p3 at *
 clear hs1 hs2
 go_enter Tryz.func40, Tryz.ntmps40
 go_wp2_with fail
 refine (hopen.out _ (hv.keep (by simp) fun hp => Below.heap_alloc _ _ _ (hv.lt hp))).mono ?_
 rintro e w1 ⟨g, d, rfl, hq, hg, _, hb1⟩
 have hgl : w.heap.size < g := by simp at hg; omega
 have hR1 : Boxed w1 w.heap.size 0 ⟨#[]⟩ ⟨#[]⟩ := (Boxed.new w).below hb1 (by simp)
 have hw1 : Below w.heap.size w w1 := (below_box w _).trans (hb1.mono (by simp))
 clear hb1 hg
 go_wp2_with fail
 refine (hnum.out g d w1 hq).mono ?_
 rintro e w2 ⟨rfl, hq2, hg2⟩
 go_wp2_with fail
 refine (ht1.out g d w2 hq2).mono ?_
 rintro e w3 ⟨rfl, hq3, hg3⟩
 go_wp2_with fail
 refine (ht2.out g d w3 hq3).mono ?_
 rintro e w4 ⟨rfl, hq4, hg4⟩
 have hR4 : Boxed w4 w.heap.size 0 ⟨#[]⟩ ⟨#[]⟩ := by
  have hR2 := hR1.keep (hg2.block _ hR1.lt (fun e => by cases e; omega))
  have hR3 := hR2.keep (hg3.block _ hR2.lt (fun e => by cases e; omega))
  exact hR3.keep (hg4.block _ hR3.lt (fun e => by cases e; omega))
 have hw4 : Below w.heap.size w w4 := by
  have h2 := hw1.trans (below_of_grown hg2 (by omega) hw1.size)
  have h3 := h2.trans (below_of_grown hg3 (by omega) h2.size)
  exact h3.trans (below_of_grown hg4 (by omega) h3.size)
 have k0 := hR4.c0
 have k1 := hR4.c1
 have k2 := hR4.c2
 have f0 := hR4.froz 0
 have f1 := hR4.froz 1
 have f2 := hR4.froz 2
 have hq4' := hq4
 obtain ⟨A, c, h4, hsh4⟩ := hq4
 have c1 : w4.cell? ⟨g, 1, none⟩ = some (.bool false) := by rw [cell_of_row w4 g 1 _ 85 (0, 0) h4]; rfl
 have wr1 : IntKind.u32.wrap (p1.1 : Int) = (p1.1 : Int) := by rw [IntKind.wrap_u32]; omega
 clear k0 k1 k2 f0 f1 f2
 go_wp2_with fail
 refine (hck.out _).mono ?_
 rintro e w5 ⟨rfl, hb5⟩
 obtain ⟨A0, c0, hv0⟩ : ∃ A c, v = .slice A b.length c := by obtain ⟨A, c, h, _⟩ := hv; exact ⟨A, c, h⟩
 subst hv0
 have hgl4 : g < w4.heap.size := hq4'.lt
 have hbd := below_drew1 hb5
 have hR5 : Boxed w5.drew w.heap.size 0 ⟨#[]⟩ ⟨#[]⟩ := (hR4.keep (Below.heap_alloc w4 _ _ hR4.lt)).below hbd (by have := hR4.lt; simp; omega)
 have hX5 : Boxed w5.drew w4.heap.size p1.1 (str8 p2.1) (str8 p3.1) := (Boxed.new w4).below hbd (by simp)
 have h5 : w5.drew.heap[g]? = some (.cells #[.slice A rest.length c, .bool false] 85 (0, 0)) := ((hbd.block g (by simp; omega)).trans (Below.heap_alloc w4 _ _ hgl4)).trans h4
 have hw5 : Below w.heap.size w w5.drew := below_drew1 ((hw4.alloc hw4.size _).trans (hb5.mono (by have := hw4.size; simp; omega)))
 have q0 : w5.drew.cell? ⟨g, 0, none⟩ = some (.slice A rest.length c) := by rw [cell_of_row w5.drew g 0 _ 85 (0, 0) h5]; rfl
 have hne : w4.heap.size ≠ w.heap.size := fun e => by have := hR4.lt; omega
 have hne2 : g ≠ w.heap.size := by omega
 have x0 := hX5.c0
 have x1 := hX5.c1
 have x2 := hX5.c2
 have k0 := hR5.c0
 have k1 := hR5.c1
 have k2 := hR5.c2
 have f0 := hR5.froz 0
 have f1 := hR5.froz 1
 have f2 := hR5.froz 2
 have k0' : w5.cell? ⟨w.heap.size, 0, none⟩ = _ := k0
 have k1' : w5.cell? ⟨w.heap.size, 1, none⟩ = _ := k1
 have k2' : w5.cell? ⟨w.heap.size, 2, none⟩ = _ := k2
 have f0' : w5.frozen? ⟨w.heap.size, 0, none⟩ = _ := f0
 have f1' : w5.frozen? ⟨w.heap.size, 1, none⟩ = _ := f1
 have f2' : w5.frozen? ⟨w.heap.size, 2, none⟩ = _ := f2
 have x0' : w5.cell? ⟨w4.heap.size, 0, none⟩ = _ := x0
 have x1' : w5.cell? ⟨w4.heap.size, 1, none⟩ = _ := x1
 have x2' : w5.cell? ⟨w4.heap.size, 2, none⟩ = _ := x2
 have q0' : w5.cell? ⟨g, 0, none⟩ = _ := q0
 have wsub : IntKind.i64.wrap ((b.length : Int) - (rest.length : Int)) = (b.length : Int) - (rest.length : Int) := i64_id _ (by omega) (by omega)
 have r4 : w5.drew.heap[w.heap.size]? = some (.cells #[.int .u32 (0 : Nat), .string ⟨#[]⟩, .string ⟨#[]⟩] 25 (0, 0)) := hR5
 have r5 := heap_setCell_same w5.drew w.heap.size 0 _ 25 (.int .u32 p1.1) r4
 have r6 := heap_setCell_same _ w.heap.size 1 _ 25 (.string (str8 p2.1)) r5
 have r7 := heap_setCell_same _ w.heap.size 2 _ 25 (.string (str8 p3.1)) r6
 have HR := Lib.hid r7
 clear r4 r5 r6 r7 hR5 hR4 h5 h4 hX5
 go_wp2_with fail
 go_region
 all_goals
  go_wp2_with fail
  (try simp only [Exit.inBlock, Exit.then])
  refine bodyPost_ret (results_cell_tmp2 rfl _ _ w.heap.size 25 _ (0, 0) _ rfl HR.out Tryz.underlying25 rfl (by kernel_rfl)) rfl ⟨rfl, below_set (below_set (below_set hw5 (Nat.le_refl _) _) (Nat.le_refl _) _) (Nat.le_refl _) _⟩
end Go.Proofs.YtdklhcmoilcpgaaGreat
