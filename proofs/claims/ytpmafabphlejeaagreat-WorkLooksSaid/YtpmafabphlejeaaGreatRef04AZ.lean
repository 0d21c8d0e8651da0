/-
  Texts, together: Ref04A, Ref04B, Ref04C, Ref04D, Ref04G.
  Conditions: none but sizes.
-/
import Derived.BigQuiet
import Derived.Test.YtpmafabphlejeaaGreatMemZ
import Derived.Test.YtpmafabphlejeaaGreatBigZ
import Derived.Test.YtpmafabphlejeaaGreatOctBigZ
import Derived.Deep.RegionLaw
import Derived.Laws.BitsAllLaws
import Derived.Test.YtpmafabphlejeaaGreatRefRdZ
/-
  The contracts of the document's Check, sign, number, less, Compare of names.
  Conditions: none but sizes.
-/
namespace Go.Proofs.YtpmafabphlejeaaGreat
open Go.RowKit
set_option linter.unusedVariables false
set_option linter.unusedSimpArgs false

/-- A name as a value. -/
def xidV (f : Nat) (g h : ByteArray) : Value := .agg #[.int .u32 f, .string g, .string h]
/-- A name that may be. -/
def mayX (g h : ByteArray) : Prop := 1 ≤ g.size ∧ g.size ≤ 64 ∧ h.size ≤ 64
instance (g h : ByteArray) : Decidable (mayX g h) := by unfold mayX; infer_instance

theorem below_box (w : World) (o : Obj) : Below w.heap.size w (w.alloc o) := (Below.refl _ _).alloc (Nat.le_refl _) _

theorem qcheck_ok (f : Nat) (g h : ByteArray) (w : World) (hm : mayX g h) :
    Calls Tryz.prog 49 #[xidV f g h] w fun e w' => e = .returned (.int .i64 0) ∧ Below w.heap.size w w' := by
  obtain ⟨h1, h2, h3⟩ := hm
  unfold xidV
  have t1 : decide ((g.size : Int) < 1) = false := by simp; omega
  have t2 : decide ((64 : Int) < g.size) = false := by simp; omega
  have t3 : decide ((64 : Int) < h.size) = false := by simp; omega
  clear h1 h2 h3
  go_enter Tryz.func49, Tryz.ntmps49
  go_wp2_with fail
  go_ret
  exact ⟨rfl, below_box _ _⟩

theorem qcheck_no (f : Nat) (g h : ByteArray) (w : World) (hm : ¬ mayX g h) (hg : g.size ≤ 140737488355328) (hh : h.size ≤ 140737488355328) :
    Calls Tryz.prog 49 #[xidV f g h] w fun e w' => e = .returned (.int .i64 40) ∧ Below w.heap.size w w' := by
  unfold xidV
  have hm' : g.size < 1 ∨ 64 < g.size ∨ 64 < h.size := by unfold mayX at hm; omega
  by_cases c1 : g.size < 1
  case' pos => have t1 : decide ((g.size : Int) < 1) = true := by simp; omega
  case' neg =>
    have t1 : decide ((g.size : Int) < 1) = false := by simp; omega
    by_cases c2 : 64 < g.size
    case' pos => have t2 : decide ((64 : Int) < g.size) = true := by simp; omega
    case' neg =>
      have t2 : decide ((64 : Int) < g.size) = false := by simp; omega
      have t3 : decide ((64 : Int) < h.size) = true := by simp; omega
  all_goals
    clear hm hm'
    try clear c1
    try clear c2
    go_enter Tryz.func49, Tryz.ntmps49
    go_wp2_with fail
    go_ret
    exact ⟨rfl, below_box _ _⟩

/-- The sign of a number below 16. -/
def signD (n : Nat) : Nat := if n < 10 then 48 + n else 87 + n

/-- The number of a sign; 16: it is none's. -/
def numD (c : Nat) : Nat := if 48 ≤ c ∧ c ≤ 57 then c - 48 else if 97 ≤ c ∧ c ≤ 102 then c - 87 else 16
theorem numD_sign (k : Nat) (h : k < 16) : numD (signD k) = k := by
  unfold signD numD
  repeat' split
  all_goals omega
theorem numD_none {c : Nat} (h : ∀ j, j < 16 → signD j ≠ c) : numD c = 16 := by
  unfold numD
  split
  · exact absurd (by unfold signD; rw [if_pos (by omega)]; omega) (h (c - 48) (by omega))
  · split
    · exact absurd (by unfold signD; rw [if_neg (by omega)]; omega) (h (c - 87) (by omega))
    · rfl
theorem signD_lt (n : Nat) (h : n < 16) : signD n < 256 := by unfold signD; split <;> omega

/-- Does a text go ahead of another one? -/
def lessD : List UInt8 → List UInt8 → Bool
  | [], [] => false
  | [], _ :: _ => true
  | _ :: _, [] => false
  | x :: a, y :: b => if x ≠ y then decide (x.toNat < y.toNat) else lessD a b
theorem lessD_same : ∀ (k : Nat) (a b : List UInt8), a.take k = b.take k → k ≤ a.length → k ≤ b.length → lessD a b = lessD (a.drop k) (b.drop k)
  | 0, _, _, _, _, _ => by simp
  | k + 1, [], _, _, h, _ => absurd h (by simp)
  | k + 1, _ :: _, [], _, _, h => absurd h (by simp)
  | k + 1, x :: a, y :: b, h, h1, h2 => by
    simp only [List.take_succ_cons, List.cons.injEq] at h
    rw [lessD, if_neg (by simp [h.1]), lessD_same k a b h.2 (by simpa using h1) (by simpa using h2)]
    rfl

theorem sb_get (s : ByteArray) (k : Nat) (h : k < s.size) (h' : k < (sb s).length) : (sb s)[k] = s[k] := rfl
theorem sb_drop (s : ByteArray) (k : Nat) (h : k < s.size) : (sb s).drop k = s[k] :: (sb s).drop (k + 1) := by
  have h' : k < (sb s).length := by rw [sb_length]; exact h
  exact List.drop_eq_getElem_cons h'

/-- What Compare of two names answers, as the document orders them. -/
def aheadD (f1 f2 : Nat) (g1 h1 g2 h2 : ByteArray) : Bool :=
  if f1 ≠ f2 then decide (f1 < f2) else if g1 ≠ g2 then lessD (sb g1) (sb g2) else lessD (sb h1) (sb h2)
def compareD (f1 f2 : Nat) (g1 h1 g2 h2 : ByteArray) : Int :=
  if f1 = f2 ∧ g1 = g2 ∧ h1 = h2 then 0 else if aheadD f1 f2 g1 h1 g2 h2 then -1 else 1

theorem below_box2 (w : World) (o p : Obj) : Below w.heap.size w ((w.alloc o).alloc p) := (below_box w o).alloc (below_box w o).size _
theorem toList_ne {a b : ByteArray} (h : a ≠ b) : ¬ a.toList = b.toList := fun e => h (by rw [← str8_sb a, ← str8_sb b, ← sb_toList, ← sb_toList, e])

end Go.Proofs.YtpmafabphlejeaaGreat
/-
  The contracts of the document's Digits, Hex, Unhex of names.
  Conditions: none but sizes.
-/
namespace Go.Proofs.YtpmafabphlejeaaGreat
open Go.RowKit
set_option linter.unusedVariables false
set_option linter.unusedSimpArgs false

/-- The digits of a number, the highest first. -/
def digD (n : Nat) : List UInt8 := if n < 10 then [UInt8.ofNat (48 + n)] else digD (n / 10) ++ [UInt8.ofNat (48 + n % 10)]
theorem digD_small {n : Nat} (h : n < 10) : digD n = [UInt8.ofNat (48 + n)] := by rw [digD, if_pos h]
theorem digD_step {n : Nat} (h : 9 < n) : digD n = digD (n / 10) ++ [UInt8.ofNat (48 + n % 10)] := by rw [digD, if_neg (by omega)]
theorem str8_append (a b : List UInt8) : str8 a ++ str8 b = str8 (a ++ b) := by
  apply ByteArray.ext
  simp [str8]

theorem digD_length : ∀ (k n : Nat), n < 10 ^ (k + 1) → (digD n).length ≤ k + 1
  | 0, n, h => by rw [digD_small (by simpa using h)]; simp
  | k + 1, n, h => by
    by_cases hn : n < 10
    · rw [digD_small hn]; simp
    · rw [digD_step (by omega)]
      have := digD_length k (n / 10) (by rw [Nat.pow_succ] at h; omega)
      simp; omega
theorem lit1 (d : Nat) (h : d < 256) : (#[Value.int IntKind.u8 d] : Array Value) = (bs [UInt8.ofNat d]).toArray := by
  simp [bs, u8c, Nat.mod_eq_of_lt h]

end Go.Proofs.YtpmafabphlejeaaGreat
/-
  The contract of the document's Hex of names.
  Conditions: at most 2^40 bytes.
-/
namespace Go.Proofs.YtpmafabphlejeaaGreat
open Go.RowKit
set_option linter.unusedVariables false
set_option linter.unusedSimpArgs false

/-- Bytes as signs. -/
def hexD (l : List UInt8) : List UInt8 := l.flatMap fun b => [UInt8.ofNat (signD (b.toNat / 16)), UInt8.ofNat (signD (b.toNat % 16))]
theorem hexD_length (l : List UInt8) : (hexD l).length = 2 * l.length := by
  induction l with
  | nil => rfl
  | cons b l ih =>
    have : hexD (b :: l) = [UInt8.ofNat (signD (b.toNat / 16)), UInt8.ofNat (signD (b.toNat % 16))] ++ hexD l := rfl
    rw [this, List.length_append, ih]; simp; omega
theorem hexD_snoc (l : List UInt8) (b : UInt8) : hexD (l ++ [b]) = hexD l ++ [UInt8.ofNat (signD (b.toNat / 16)), UInt8.ofNat (signD (b.toNat % 16))] := by simp [hexD]
theorem lit2 (d e : Nat) (h : d < 256) (h2 : e < 256) : (#[Value.int IntKind.u8 d, Value.int IntKind.u8 e] : Array Value) = (bs [UInt8.ofNat d, UInt8.ofNat e]).toArray := by
  simp [bs, u8c, Nat.mod_eq_of_lt h, Nat.mod_eq_of_lt h2]

theorem Own.alloc8 {e : TypeId} {w : World} {base : Nat} {v : Value} {l : List UInt8} (h : Own e w base v l) (o : Obj) : Own e (w.alloc o) base v l :=
  h.keep fun g hg => Below.heap_alloc _ _ _ (h.block g hg).2
/-- 'append' of bytes at a step of a region that draws its order: for 'go_region_law'. -/
theorem step_append8 {P : Program} (w : World) {ops : Array Oper} {o : Oper} {a : Act} {K : Act → World → Prop} {Q : Exit → Act → World → Prop} {E : Prop} (hgd : o.guard = none) (s x : Operand) (t : TypeId)
    (ho : o.op = .call { callee := .builtin .append, args := #[s, x], argTypes := #[t, t] })
    (base : Nat) (e : TypeId) (ht : P.underlying t = some (.slice e)) (hi : (P.info? e).map (fun i => (i.zero, i.size, i.bytes)) = some (some (.int .u8 0), 1, 1))
    (v : Value) (l : List UInt8) (hs : a.eval s = v) (hown : Own e w base v l) (d : Nat) (y : Value) (m : List UInt8) (hx : a.eval x = y) (hm : Shows w d y m)
    (hb : l.length + m.length ≤ 140737488355328) (hbase : base ≤ w.heap.size)
    (h : ∀ v' w', Own e w' base v' (l ++ m) → w.grownBy w' v.ownBlock → K (a.put o.dst v') w') :
    if Region.wanted o (yielded ops a.tmps) = true then Oper.wp P o a w K Q else E := by
  have hw : Region.wanted o (yielded ops a.tmps) = true := by simp [Region.wanted, hgd]
  rw [if_pos hw]
  obtain ⟨i, hi0, hz, hs1, hb1⟩ := info_parts hi
  obtain ⟨v', w', hr, h2, h3⟩ := run_append_own8 (P := P) w base t o.type e i ht hi0 hz hs1 hb1 v l hown d y m hm hb hbase
  unfold Oper.wp execOp
  simp only [ho, resolve, invoke, builtin, Sem.run_bind, Sem.run_pure, Result.andThen_ok, List.map_toArray, List.map_cons, List.map_nil, hs, hx, hr]
  exact h v' w' h2 h3

end Go.Proofs.YtpmafabphlejeaaGreat
/-
  The contract of the document's Put of names.
  Conditions: none but sizes.
-/
namespace Go.Proofs.YtpmafabphlejeaaGreat
open Go.RowKit
set_option linter.unusedVariables false
set_option linter.unusedSimpArgs false

/-- A name in a block of its own. -/
def Boxed (w : World) (b f : Nat) (g h : ByteArray) : Prop := w.heap[b]? = some (.cells #[.int .u32 f, .string g, .string h] 55 (0, 0))
section
variable {w w' : World} {b f : Nat} {g h : ByteArray}
theorem Boxed.lt (hb : Boxed w b f g h) : b < w.heap.size := (Array.getElem?_eq_some_iff.1 hb).1
theorem Boxed.c0 (hb : Boxed w b f g h) : w.cell? ⟨b, 0, none⟩ = some (.int .u32 f) := by rw [cell_of_row w b _ _ 55 (0, 0) hb]; rfl
theorem Boxed.c1 (hb : Boxed w b f g h) : w.cell? ⟨b, 1, none⟩ = some (.string g) := by rw [cell_of_row w b _ _ 55 (0, 0) hb]; rfl
theorem Boxed.c2 (hb : Boxed w b f g h) : w.cell? ⟨b, 2, none⟩ = some (.string h) := by rw [cell_of_row w b _ _ 55 (0, 0) hb]; rfl
theorem Boxed.keep (hb : Boxed w b f g h) (hk : w'.heap[b]? = w.heap[b]?) : Boxed w' b f g h := hk.trans hb
theorem Boxed.below {B : Nat} (hb : Boxed w b f g h) (hk : Below B w w') (hl : b < B) : Boxed w' b f g h := (hk.block b hl).trans hb
theorem Boxed.new (w : World) : Boxed (w.alloc (Obj.cells #[.int .u32 f, .string g, .string h] 55)) w.heap.size f g h := heap_alloc_new w _
end

/-- A name's bytes. -/
def encX (f : Nat) (g h : ByteArray) : List UInt8 := be 4 f ++ [UInt8.ofNat g.size] ++ sb g ++ [UInt8.ofNat h.size] ++ sb h

end Go.Proofs.YtpmafabphlejeaaGreat
/-
  The contract of the document's Get of names.
  Conditions: at most 2^47 bytes.
-/
namespace Go.Proofs.YtpmafabphlejeaaGreat
open Go.RowKit
set_option linter.unusedVariables false
set_option linter.unusedSimpArgs false

/-- What Get reads: the format, the two texts, what is left. -/
def gx1 (b : List UInt8) : Nat × Option (List UInt8) := numS 4 (some b)
def gx2 (b : List UInt8) : List UInt8 × Option (List UInt8) := textS 1 255 (gx1 b).2
def gx3 (b : List UInt8) : List UInt8 × Option (List UInt8) := textS 1 255 (gx2 b).2
theorem x_takeS_fst_le (n : Int) (s : Option (List UInt8)) : (takeS n s).1.length ≤ lenS s := by
  cases s with
  | none => simp [takeS]
  | some l => simp only [takeS, lenS]; split <;> simp <;> omega
theorem x_textT_lenS (m : Int) (p : Nat × Option (List UInt8)) : lenS (textT m p).2 ≤ lenS p.2 := by
  unfold textT
  by_cases h : m < 0 ∨ m < p.1
  · rw [if_pos h]; exact takeS_lenS _ _
  · rw [if_neg h]; exact takeS_lenS _ _
theorem x_textS_lenS (q m : Int) (s : Option (List UInt8)) : lenS (textS q m s).2 ≤ lenS s := Nat.le_trans (x_textT_lenS _ _) (numS_lenS _ _)
theorem x_textT_fst_le (m : Int) (p : Nat × Option (List UInt8)) : (textT m p).1.length ≤ lenS p.2 := by
  unfold textT
  by_cases h : m < 0 ∨ m < p.1
  · rw [if_pos h]; simp
  · rw [if_neg h]; exact x_takeS_fst_le _ _
theorem x_textS_fst_le (q m : Int) (s : Option (List UInt8)) : (textS q m s).1.length ≤ lenS s := Nat.le_trans (x_textT_fst_le _ _) (numS_lenS _ _)
theorem Boxed.froz {w : World} {b f : Nat} {g h : ByteArray} (hb : Boxed w b f g h) (i : Nat) : w.frozen? ⟨b, i, none⟩ = false := frozen_of_row w b i _ 55 hb

theorem results_cell_tmp2 {P : Program} {fn : Func} {p u v : Tmp} {ty : TypeId} (h : fn.results = #[.cell p ty, .tmp u, .tmp v]) (tmps : Array Value) (w : World) (g : Nat) (t : TypeId) (cs : Array Value) (fr : Nat × Nat) (d : TypeDesc)
    (hp : tmps.getD p undef = .pointer (some ⟨g, 0, none⟩)) (hg : w.heap[g]? = some (.cells cs t fr))
    (hu : P.underlying ty = some d) (hd : (match d with | .struct _ | .array _ _ => true | _ => false) = true) (hi : (P.info? ty).map (·.size) = some cs.size) :
    (results fn tmps).run P w = .ok (.tuple #[.agg cs, tmps.getD u undef, tmps.getD v undef]) w := by
  have hp' : tmps[p]?.getD undef = .pointer (some ⟨g, 0, none⟩) := by simpa using hp
  simp [results, h, hp', asAddr, run_loadVar_row w g t ty cs fr d hg hu hd hi]

theorem numS4_lt (s : Option (List UInt8)) : (numS 4 s).1 < 4294967296 := by
  unfold numS
  rw [if_pos (by decide)]
  have h1 := numOf_lt (takeS 4 s).1
  have h2 : (takeS 4 s).1.length ≤ 4 := by
    cases s with
    | none => simp [takeS]
    | some l => simp only [takeS]; split <;> simp <;> omega
  have h3 : 256 ^ (takeS 4 s).1.length ≤ 256 ^ 4 := Nat.pow_le_pow_right (by omega) h2
  exact Nat.lt_of_lt_of_le h1 (Nat.le_trans h3 (by decide))

end Go.Proofs.YtpmafabphlejeaaGreat
