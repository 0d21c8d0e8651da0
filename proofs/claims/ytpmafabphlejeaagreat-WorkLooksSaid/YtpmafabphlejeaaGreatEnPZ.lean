/-
  Texts, together: EnP, EnA, EnM.
  Conditions: none but sizes.
-/
import Derived.Test.YtpmafabphlejeaaGreatPrPZ
import Derived.Test.YtpmafabphlejeaaGreatXiOZ
import Derived.Laws.BitsAllLaws
import Derived.Test.YtpmafabphlejeaaGreatPrAZ
/-
  Without the program: entries, which may be, their bytes; what is read of bytes; an entry's bytes are read as that entry.
  Conditions: none.
-/
namespace Go.Proofs.YtpmafabphlejeaaGreat
open Go.RowKit
set_option linter.unusedVariables false
set_option linter.unusedSimpArgs false

/-- A message that is put. -/
structure PutE where
  q : ByteArray
  id : Nat
  p : PropP
  body : ByteArray
/-- A message that is named. -/
structure RefE where
  q : ByteArray
  id : Nat
/-- An entry. -/
structure EntE where
  k : Nat
  name : ByteArray
  n : Nat
  xf : Nat
  xg : ByteArray
  xh : ByteArray
  puts : List PutE
  takes : List RefE
def zE : EntE := ⟨0, ⟨#[]⟩, 0, 0, ⟨#[]⟩, ⟨#[]⟩, [], []⟩
def qcOK (c : UInt8) : Bool := decide (33 ≤ c.toNat ∧ c.toNat ≤ 126)
def qnOK (s : ByteArray) : Bool := decide (1 ≤ s.size ∧ s.size ≤ 40) && (sb s).all qcOK
def msgOK (n : Nat) : Bool := decide (1 ≤ n ∧ n ≤ 1099511627776)
def uName (k : Nat) : Bool := decide (k = 1 ∨ k = 2)
def uNum (k : Nat) : Bool := decide (k = 1 ∨ k = 5 ∨ k = 7)
def uX (k : Nat) : Bool := decide (k = 4 ∨ k = 5 ∨ k = 6 ∨ k = 7 ∨ k = 8 ∨ k = 9)
def uWork (k : Nat) : Bool := decide (k = 3 ∨ k = 4)
def kindOK (k : Nat) : Bool := decide (1 ≤ k ∧ k ≤ 9)
/-- What a put is asked for, but its number. -/
def putOK (p : PutE) : Prop := qnOK p.q = true ∧ p.body.size ≤ 4096 ∧ validPr p.p ∧ (encPr p.p).length ≤ 8192
def putNum (d : Bool) (n : Nat) : Bool := if d = true then msgOK n else decide (n = 0)
def putMay (d : Bool) (p : PutE) : Prop := putNum d p.id = true ∧ putOK p
def refMay (r : RefE) : Bool := qnOK r.q && msgOK r.id
/-- Puts and takes as a kind asks. -/
def workOK (e : EntE) : Prop := e.puts.length ≤ 100 ∧ e.takes.length ≤ 100 ∧ (∀ p ∈ e.puts, putMay (decide (e.k = 3)) p) ∧ (∀ r ∈ e.takes, refMay r = true)
def nameIs (e : EntE) : Prop := if uName e.k = true then qnOK e.name = true else e.name = ⟨#[]⟩
def numIs (e : EntE) : Prop := if uNum e.k = true then msgOK e.n = true else e.n = 0
def xidIs (e : EntE) : Prop := if uX e.k = true then mayX e.xg e.xh else e.xf = 0 ∧ e.xg = ⟨#[]⟩ ∧ e.xh = ⟨#[]⟩
def workIs (e : EntE) : Prop := if uWork e.k = true then workOK e else e.puts = [] ∧ e.takes = []
def validE (e : EntE) : Prop := kindOK e.k = true ∧ nameIs e ∧ numIs e ∧ xidIs e ∧ workIs e

/-! ### bytes -/
def placeB (q : ByteArray) (id : Nat) : List UInt8 := be 1 q.size ++ sb q ++ be 8 id
def putB (p : PutE) : List UInt8 := placeB p.q p.id ++ (be 4 (encPr p.p).length ++ encPr p.p) ++ (be 2 p.body.size ++ sb p.body)
def refB (r : RefE) : List UInt8 := placeB r.q r.id
def rowB {α : Type} (f : α → List UInt8) (l : List α) : List UInt8 := be 1 l.length ++ l.flatMap f
def nameB (e : EntE) : List UInt8 := if uName e.k = true then be 1 e.name.size ++ sb e.name else []
def numB (e : EntE) : List UInt8 := if uNum e.k = true then be 8 e.n else []
def xidB (e : EntE) : List UInt8 := if uX e.k = true then encX e.xf e.xg e.xh else []
def workB (e : EntE) : List UInt8 := if uWork e.k = true then rowB putB e.puts ++ rowB refB e.takes else []
def encE (e : EntE) : List UInt8 := be 1 e.k ++ nameB e ++ numB e ++ xidB e ++ workB e

theorem qn_size {s : ByteArray} (h : qnOK s = true) : 1 ≤ s.size ∧ s.size ≤ 40 := by
  unfold qnOK at h
  rw [Bool.and_eq_true, decide_eq_true_eq] at h
  exact h.1
theorem placeB_len (q : ByteArray) (id : Nat) : (placeB q id).length = 9 + q.size := by
  unfold placeB; simp only [List.length_append, be_length, sb_length]; omega
theorem putB_len (p : PutE) : (putB p).length = 15 + p.q.size + (encPr p.p).length + p.body.size := by
  unfold putB; simp only [List.length_append, be_length, sb_length, placeB_len]; omega
theorem putB_le {d : Bool} {p : PutE} (h : putMay d p) : (putB p).length ≤ 12343 := by
  have h1 := qn_size h.2.1
  have h2 := h.2.2.1
  have h3 := h.2.2.2.2
  rw [putB_len]; omega
theorem refB_le {r : RefE} (h : refMay r = true) : (refB r).length ≤ 49 := by
  unfold refMay at h
  rw [Bool.and_eq_true] at h
  have h1 := qn_size h.1
  unfold refB; rw [placeB_len]; omega
theorem flat_le {α : Type} (f : α → List UInt8) (m : Nat) : ∀ (l : List α), (∀ x ∈ l, (f x).length ≤ m) → (l.flatMap f).length ≤ l.length * m
  | [], _ => by simp
  | x :: l, h => by
    rw [List.flatMap_cons, List.length_append, List.length_cons, Nat.succ_mul]
    have h1 := h x (by simp)
    have h2 := flat_le f m l (fun y hy => h y (List.mem_cons_of_mem _ hy))
    omega
theorem flat_take_le {α : Type} (f : α → List UInt8) (l : List α) (k : Nat) : ((l.take k).flatMap f).length ≤ (l.flatMap f).length := by
  have : l.flatMap f = (l.take k).flatMap f ++ (l.drop k).flatMap f := by rw [← List.flatMap_append, List.take_append_drop]
  rw [this, List.length_append]; omega
theorem flat_snoc {α : Type} (f : α → List UInt8) (l : List α) (k : Nat) (h : k < l.length) : (l.take (k + 1)).flatMap f = (l.take k).flatMap f ++ f l[k] := by
  rw [List.take_succ_eq_append_getElem h, List.flatMap_append]; simp
theorem rowB_len {α : Type} (f : α → List UInt8) (l : List α) : (rowB f l).length = 1 + (l.flatMap f).length := by
  unfold rowB; rw [List.length_append, be_length]
theorem mayX_len {f : Nat} {g h : ByteArray} (hm : mayX g h) : (encX f g h).length ≤ 134 := by
  rw [encX_length]; unfold mayX at hm; omega
theorem nameB_le {e : EntE} (h : nameIs e) : (nameB e).length ≤ 41 := by
  unfold nameB
  split
  · rename_i hu
    unfold nameIs at h
    rw [if_pos hu] at h
    have := qn_size h
    rw [List.length_append, be_length, sb_length]; omega
  · simp
theorem numB_le (e : EntE) : (numB e).length ≤ 8 := by
  unfold numB
  split
  · rw [be_length]; omega
  · simp
theorem xidB_le {e : EntE} (h : xidIs e) : (xidB e).length ≤ 134 := by
  unfold xidB
  split
  · rename_i hu
    unfold xidIs at h
    rw [if_pos hu] at h
    exact mayX_len h
  · simp
theorem puts_le {e : EntE} (h : workOK e) : (e.puts.flatMap putB).length ≤ 1234300 := by
  have h1 := flat_le putB 12343 e.puts (fun x hx => putB_le (h.2.2.1 x hx))
  have h2 := Nat.mul_le_mul_right 12343 h.1
  omega
theorem takes_le {e : EntE} (h : workOK e) : (e.takes.flatMap refB).length ≤ 4900 := by
  have h1 := flat_le refB 49 e.takes (fun x hx => refB_le (h.2.2.2 x hx))
  have h2 := Nat.mul_le_mul_right 49 h.2.1
  omega
theorem workB_le {e : EntE} (h : workIs e) : (workB e).length ≤ 1239202 := by
  unfold workB
  split
  · rename_i hu
    unfold workIs at h
    rw [if_pos hu] at h
    have h1 := puts_le h
    have h2 := takes_le h
    rw [List.length_append, rowB_len, rowB_len]; omega
  · simp
theorem encE_le {e : EntE} (h : validE e) : (encE e).length ≤ 1300000 := by
  obtain ⟨_, h1, h2, h3, h4⟩ := h
  have := nameB_le h1
  have := numB_le e
  have := xidB_le h3
  have := workB_le h4
  unfold encE
  simp only [List.length_append, be_length]
  omega

/-! ### what is read -/
def listS {α : Type} (item : St → α × St) (stop : Bool) : Nat → St → List α × St
  | 0, s => ([], s)
  | n + 1, s => if stop = true ∧ (listS item stop n s).2 = none then listS item stop n s else ((listS item stop n s).1 ++ [(item (listS item stop n s).2).1], (item (listS item stop n s).2).2)
/-- A name's bytes: what Get tells of them, and how many they are. -/
def xgot (b : List UInt8) : (Nat × ByteArray × ByteArray) × Nat :=
  match getD b with
  | none => ((0, ⟨#[]⟩, ⟨#[]⟩), 0)
  | some (f, g, h, c) => by classical exact if mayX (str8 g) (str8 h) then ((f, str8 g, str8 h), c) else ((0, ⟨#[]⟩, ⟨#[]⟩), 0)
def xidS (stop : Bool) (s : St) : (Nat × ByteArray × ByteArray) × St :=
  let x := xgot (leftB s)
  (x.1, if stop = true then (takeS (x.2 : Nat) s).2 else some ((leftB s).drop x.2))
noncomputable def gotPr (l : List UInt8) : PropP := match getPr l with | none => zPr | some p => p
noncomputable def putS (nm pm bm : Int) (s : St) : PutE × St :=
  let a := textS 1 nm s
  let b := numS 8 a.2
  let c := textS 4 pm b.2
  let d := textS 2 bm c.2
  (⟨str8 a.1, b.1, gotPr c.1, str8 d.1⟩, d.2)
def refS (nm : Int) (s : St) : RefE × St :=
  let a := textS 1 nm s
  let b := numS 8 a.2
  (⟨str8 a.1, b.1⟩, b.2)
def nameS (nm : Int) (k : Nat) (s : St) : ByteArray × St := if uName k = true then (str8 (textS 1 nm s).1, (textS 1 nm s).2) else (⟨#[]⟩, s)
def nrS (k : Nat) (s : St) : Nat × St := if uNum k = true then numS 8 s else (0, s)
def xS (stop : Bool) (k : Nat) (s : St) : (Nat × ByteArray × ByteArray) × St := if uX k = true then xidS stop s else ((0, ⟨#[]⟩, ⟨#[]⟩), s)
noncomputable def psS (nm pm bm : Int) (stop : Bool) (k : Nat) (s : St) : List PutE × St := if uWork k = true then listS (putS nm pm bm) stop (numS 1 s).1 (numS 1 s).2 else ([], s)
def tsS (nm : Int) (stop : Bool) (k : Nat) (s : St) : List RefE × St := if uWork k = true then listS (refS nm) stop (numS 1 s).1 (numS 1 s).2 else ([], s)
noncomputable def decG (nm pm bm : Int) (stop : Bool) (l : List UInt8) : EntE :=
  let a := numS 1 (some l)
  let b := nameS nm a.1 a.2
  let c := nrS a.1 b.2
  let d := xS stop a.1 c.2
  let p := psS nm pm bm stop a.1 d.2
  let t := tsS nm stop a.1 p.2
  ⟨a.1, b.1, c.1, d.1.1, d.1.2.1, d.1.2.2, p.1, t.1⟩

theorem listS_put {α : Type} (item : St → α × St) (stop : Bool) (f : α → List UInt8) (l : List α) (r : List UInt8) (h : ∀ x ∈ l, ∀ m, item (some (f x ++ m)) = (x, some m)) :
    ∀ k, k ≤ l.length → listS item stop k (some (l.flatMap f ++ r)) = (l.take k, some ((l.drop k).flatMap f ++ r))
  | 0, _ => by simp [listS]
  | k + 1, hk => by
    have ih := listS_put item stop f l r h k (by omega)
    have hlt : k < l.length := by omega
    have e : l.drop k = l[k] :: l.drop (k + 1) := List.drop_eq_getElem_cons hlt
    unfold listS
    rw [ih]
    simp only []
    rw [if_neg (fun hc => by cases hc.2), e, List.flatMap_cons, List.append_assoc, h l[k] (List.getElem_mem hlt), List.take_succ_eq_append_getElem hlt]
theorem rowS_put {α : Type} (item : St → α × St) (stop : Bool) (f : α → List UInt8) (l : List α) (r : List UInt8) (h : ∀ x ∈ l, ∀ m, item (some (f x ++ m)) = (x, some m)) (hl : l.length < 256) :
    listS item stop (numS 1 (some (rowB f l ++ r))).1 (numS 1 (some (rowB f l ++ r))).2 = (l, some r) := by
  have e : numS 1 (some (rowB f l ++ r)) = (l.length, some (l.flatMap f ++ r)) := by
    unfold rowB
    rw [List.append_assoc]
    exact numS_be 1 _ _ num1 (by omega)
  rw [e]
  simp only []
  rw [listS_put item stop f l r h l.length (Nat.le_refl _), List.take_length, List.drop_length]
  rfl
theorem text1_put (nm : Int) (q : ByteArray) (m : List UInt8) (hn : 40 ≤ nm) (hq : q.size ≤ 40) : textS 1 nm (some (be 1 q.size ++ (sb q ++ m))) = (sb q, some m) := by
  rw [← sb_length]
  obtain ⟨n, rfl⟩ := Int.eq_ofNat_of_zero_le (show 0 ≤ nm by omega)
  exact textS_be 1 n (sb q) m txt1 (by rw [sb_length]; omega) (by rw [sb_length]; omega)
theorem place_put (nm : Int) (q : ByteArray) (id : Nat) (m : List UInt8) (hn : 40 ≤ nm) (hq : q.size ≤ 40) (hi : id < 18446744073709551616) :
    textS 1 nm (some (placeB q id ++ m)) = (sb q, some (be 8 id ++ m)) ∧ numS 8 (some (be 8 id ++ m)) = (id, some m) := by
  refine ⟨?_, numS_be 8 id m (by decide) hi⟩
  unfold placeB
  rw [List.append_assoc, List.append_assoc]
  exact text1_put nm q _ hn hq
theorem gotPr_enc {p : PropP} (h : validPr p) : gotPr (encPr p) = p := by
  unfold gotPr
  rw [get_enc h]
theorem msg_lt {n : Nat} (h : msgOK n = true) : n < 18446744073709551616 := by
  unfold msgOK at h
  rw [decide_eq_true_eq] at h
  omega
theorem num_lt {d : Bool} {n : Nat} (h : putNum d n = true) : n < 18446744073709551616 := by
  unfold putNum at h
  split at h
  · exact msg_lt h
  · rw [decide_eq_true_eq] at h; omega
theorem putS_put (nm pm bm : Int) (d : Bool) (p : PutE) (m : List UInt8) (hn : 40 ≤ nm) (hp : 8192 ≤ pm) (hb : 4096 ≤ bm) (h : putMay d p) : putS nm pm bm (some (putB p ++ m)) = (p, some m) := by
  have hq := qn_size h.2.1
  obtain ⟨q, id, pr, body⟩ := p
  have h2 := h.2.2.1
  have h3 := h.2.2.2.1
  have h4 := h.2.2.2.2
  have h5 := num_lt h.1
  simp only at hq h2 h3 h4 h5
  obtain ⟨e1, e2⟩ := place_put nm q id ((be 4 (encPr pr).length ++ encPr pr) ++ (be 2 body.size ++ sb body) ++ m) hn hq.2 h5
  have e3 : textS 4 pm (some ((be 4 (encPr pr).length ++ encPr pr) ++ (be 2 body.size ++ sb body) ++ m)) = (encPr pr, some ((be 2 body.size ++ sb body) ++ m)) := by
    obtain ⟨n, rfl⟩ := Int.eq_ofNat_of_zero_le (show 0 ≤ pm by omega)
    have := textS_be 4 n (encPr pr) ((be 2 body.size ++ sb body) ++ m) txt4 (by omega) (by omega)
    rw [List.append_assoc, List.append_assoc]
    exact this
  have e4 : textS 2 bm (some ((be 2 body.size ++ sb body) ++ m)) = (sb body, some m) := by
    obtain ⟨n, rfl⟩ := Int.eq_ofNat_of_zero_le (show 0 ≤ bm by omega)
    rw [← sb_length, List.append_assoc]
    exact textS_be 2 n (sb body) m txt2 (by rw [sb_length]; omega) (by rw [sb_length]; omega)
  unfold putS putB
  simp only [List.append_assoc] at e1 e2 e3 e4 ⊢
  rw [e1]
  simp only []
  rw [e2]
  simp only []
  rw [e3]
  simp only []
  rw [e4]
  simp only [str8_sb]
  rw [gotPr_enc h3]
theorem refS_put (nm : Int) (r : RefE) (m : List UInt8) (hn : 40 ≤ nm) (h : refMay r = true) : refS nm (some (refB r ++ m)) = (r, some m) := by
  unfold refMay at h
  rw [Bool.and_eq_true] at h
  have hq := qn_size h.1
  have h5 := msg_lt h.2
  obtain ⟨q, id⟩ := r
  obtain ⟨e1, e2⟩ := place_put nm q id m hn hq.2 h5
  unfold refS refB
  simp only []
  rw [e1]
  simp only []
  rw [e2]
  simp only [str8_sb]
theorem xgot_enc (f : Nat) (g h : ByteArray) (r : List UInt8) (hm : mayX g h) (hf : f < 4294967296) : xgot (encX f g h ++ r) = ((f, g, h), (encX f g h).length) := by
  unfold xgot
  rw [getD_enc f g h r hm hf]
  simp only [str8_sb]
  rw [if_pos hm]
theorem xidS_put (stop : Bool) (f : Nat) (g h : ByteArray) (r : List UInt8) (hm : mayX g h) (hf : f < 4294967296) : xidS stop (some (encX f g h ++ r)) = ((f, g, h), some r) := by
  unfold xidS
  simp only [leftB]
  rw [xgot_enc f g h r hm hf]
  simp only []
  cases stop with
  | true => rw [if_pos rfl, takeS_front _ _ r rfl]
  | false => rw [if_neg (by decide), List.drop_left]
theorem kind_lt {k : Nat} (h : kindOK k = true) : k < 256 := by
  unfold kindOK at h
  rw [decide_eq_true_eq] at h
  omega
/-- An entry's bytes are read as that entry. -/
theorem decG_enc (nm pm bm : Int) (stop : Bool) {e : EntE} (hn : 40 ≤ nm) (hp : 8192 ≤ pm) (hb : 4096 ≤ bm) (h : validE e) (hf : e.xf < 4294967296) : decG nm pm bm stop (encE e) = e := by
  obtain ⟨hk, h1, h2, h3, h4⟩ := h
  obtain ⟨k, name, n, xf, xg, xh, puts, takes⟩ := e
  have e0 : numS 1 (some (encE ⟨k, name, n, xf, xg, xh, puts, takes⟩)) = (k, some (nameB ⟨k, name, n, xf, xg, xh, puts, takes⟩ ++ (numB ⟨k, name, n, xf, xg, xh, puts, takes⟩ ++ (xidB ⟨k, name, n, xf, xg, xh, puts, takes⟩ ++ (workB ⟨k, name, n, xf, xg, xh, puts, takes⟩ ++ []))))) := by
    unfold encE
    simp only [List.append_assoc, List.append_nil]
    exact numS_be 1 k _ num1 (by have := kind_lt hk; simpa using this)
  have e1 : ∀ m, nameS nm k (some (nameB ⟨k, name, n, xf, xg, xh, puts, takes⟩ ++ m)) = (name, some m) := fun m => by
    unfold nameS nameB
    unfold nameIs at h1
    simp only at h1 ⊢
    cases hu : uName k with
    | true =>
      rw [hu, if_pos rfl] at h1
      rw [if_pos rfl, if_pos rfl, List.append_assoc, text1_put nm name m hn (qn_size h1).2, str8_sb]
    | false =>
      rw [hu, if_neg (by decide)] at h1
      rw [if_neg (by decide), if_neg (by decide), h1]
      rfl
  have e2 : ∀ m, nrS k (some (numB ⟨k, name, n, xf, xg, xh, puts, takes⟩ ++ m)) = (n, some m) := fun m => by
    unfold nrS numB
    unfold numIs at h2
    simp only at h2 ⊢
    cases hu : uNum k with
    | true =>
      rw [hu, if_pos rfl] at h2
      rw [if_pos rfl, if_pos rfl]
      exact numS_be 8 n m (by decide) (msg_lt h2)
    | false =>
      rw [hu, if_neg (by decide)] at h2
      rw [if_neg (by decide), if_neg (by decide), h2]
      rfl
  have e3 : ∀ m, xS stop k (some (xidB ⟨k, name, n, xf, xg, xh, puts, takes⟩ ++ m)) = ((xf, xg, xh), some m) := fun m => by
    unfold xS xidB
    unfold xidIs at h3
    simp only at h3 hf ⊢
    cases hu : uX k with
    | true =>
      rw [hu, if_pos rfl] at h3
      rw [if_pos rfl, if_pos rfl, xidS_put stop xf xg xh m h3 hf]
    | false =>
      rw [hu, if_neg (by decide)] at h3
      obtain ⟨rfl, rfl, rfl⟩ := h3
      rw [if_neg (by decide), if_neg (by decide)]
      rfl
  have e4 : ∃ m, psS nm pm bm stop k (some (workB ⟨k, name, n, xf, xg, xh, puts, takes⟩ ++ [])) = (puts, m) ∧ (tsS nm stop k m).1 = takes := by
    unfold psS tsS workB
    unfold workIs workOK at h4
    simp only at h4 ⊢
    cases hu : uWork k with
    | true =>
      rw [hu, if_pos rfl] at h4
      refine ⟨some (rowB refB takes ++ []), ?_, ?_⟩
      · rw [if_pos rfl, if_pos rfl, List.append_assoc]
        exact rowS_put (putS nm pm bm) stop putB puts _ (fun x hx m => putS_put nm pm bm _ x m hn hp hb (h4.2.2.1 x hx)) (by omega)
      · rw [if_pos rfl, rowS_put (refS nm) stop refB takes [] (fun x hx m => refS_put nm x m hn (h4.2.2.2 x hx)) (by omega)]
    | false =>
      rw [hu, if_neg (by decide)] at h4
      obtain ⟨rfl, rfl⟩ := h4
      exact ⟨_, rfl, rfl⟩
  obtain ⟨m, e4, e5⟩ := e4
  unfold decG
  rw [e0]
  simp only []
  rw [e1]
  simp only []
  rw [e2]
  simp only []
  rw [e3]
  simp only []
  rw [e4]
  simp only []
  rw [e5]

/-- What Get tells. -/
noncomputable def getE (l : List UInt8) : Option EntE := by classical exact if validE (decG 40 8192 4096 false l) ∧ encE (decG 40 8192 4096 false l) = l then some (decG 40 8192 4096 false l) else none
theorem xgot_lt (b : List UInt8) : (xgot b).1.1 < 4294967296 := by
  unfold xgot
  split
  · simp
  · rename_i f g h c hg
    split
    · rename_i hm
      exact (getD_sound hg hm).1
    · simp
theorem decG_lt (nm pm bm : Int) (stop : Bool) (l : List UInt8) : (decG nm pm bm stop l).xf < 4294967296 := by
  show (xS stop _ _).1.1 < _
  unfold xS
  split
  · exact xgot_lt _
  · show (0 : Nat) < 4294967296
    decide
theorem getE_enc {e : EntE} (h : validE e) (hf : e.xf < 4294967296) : getE (encE e) = some e := by
  unfold getE
  rw [decG_enc 40 8192 4096 false (by decide) (by decide) (by decide) h hf, if_pos ⟨h, rfl⟩]
theorem getE_some {l : List UInt8} {e : EntE} (h : getE l = some e) : validE e ∧ encE e = l ∧ e.xf < 4294967296 := by
  unfold getE at h
  split at h
  · rename_i h1
    cases h
    exact ⟨h1.1, h1.2, decG_lt _ _ _ _ _⟩
  · cases h
theorem getE_yes {l : List UInt8} (nm pm bm : Int) (stop : Bool) (h : validE (decG nm pm bm stop l)) (h2 : encE (decG nm pm bm stop l) = l) : getE l = some (decG nm pm bm stop l) := by
  have := getE_enc h (decG_lt _ _ _ _ _)
  rwa [h2] at this
theorem getE_no {l : List UInt8} (nm pm bm : Int) (stop : Bool) (hn : 40 ≤ nm) (hp : 8192 ≤ pm) (hb : 4096 ≤ bm) (h : ¬ (validE (decG nm pm bm stop l) ∧ encE (decG nm pm bm stop l) = l)) : getE l = none := by
  cases hg : getE l with
  | none => rfl
  | some p =>
    obtain ⟨h1, h2, h3⟩ := getE_some hg
    exfalso
    apply h
    rw [← h2, decG_enc nm pm bm stop hn hp hb h1 h3]
    exact ⟨h1, rfl⟩
theorem encE_inj {a b : EntE} (ha : validE a) (hb : validE b) (fa : a.xf < 4294967296) (fb : b.xf < 4294967296) (h : encE a = encE b) : a = b := by
  have h1 := getE_enc ha fa
  rw [h, getE_enc hb fb] at h1
  exact (Option.some.inj h1).symm
noncomputable def errE (e : EntE) : Nat := by classical exact if validE e then 0 else 130
theorem errE_ok {e : EntE} (h : validE e) : errE e = 0 := if_pos h
theorem errE_no {e : EntE} (h : ¬ validE e) : errE e = 130 := if_neg h

/-! ### the same -/
def samePE (a b : PutE) : Bool := decide (a.q = b.q ∧ a.id = b.id ∧ a.body = b.body) && samePr a.p b.p
theorem samePE_iff (a b : PutE) : samePE a b = true ↔ a = b := by
  unfold samePE
  rw [Bool.and_eq_true, decide_eq_true_eq, samePr_iff]
  cases a; cases b
  simp only [PutE.mk.injEq]
  constructor
  · rintro ⟨⟨h1, h2, h3⟩, h4⟩; exact ⟨h1, h2, h4, h3⟩
  · rintro ⟨h1, h2, h3, h4⟩; exact ⟨⟨h1, h2, h4⟩, h3⟩
def sameRow {α : Type} (f : α → α → Bool) : List α → List α → Bool
  | [], [] => true
  | x :: a, y :: b => f x y && sameRow f a b
  | _, _ => false
theorem sameRow_iff {α : Type} (f : α → α → Bool) (hf : ∀ x y, f x y = true ↔ x = y) : ∀ a b : List α, sameRow f a b = true ↔ a = b
  | [], [] => by simp [sameRow]
  | [], y :: b => by simp [sameRow]
  | x :: a, [] => by simp [sameRow]
  | x :: a, y :: b => by
    unfold sameRow
    rw [Bool.and_eq_true, hf, sameRow_iff f hf a b]
    simp
def sameRE (a b : RefE) : Bool := decide (a.q = b.q ∧ a.id = b.id)
theorem sameRE_iff (a b : RefE) : sameRE a b = true ↔ a = b := by
  unfold sameRE
  rw [decide_eq_true_eq]
  cases a; cases b
  simp only [RefE.mk.injEq]
def sameE (a b : EntE) : Bool := decide (a.k = b.k ∧ a.name = b.name ∧ a.n = b.n ∧ a.xf = b.xf ∧ a.xg = b.xg ∧ a.xh = b.xh) && sameRow samePE a.puts b.puts && sameRow sameRE a.takes b.takes
theorem sameE_iff (a b : EntE) : sameE a b = true ↔ a = b := by
  unfold sameE
  rw [Bool.and_eq_true, Bool.and_eq_true, decide_eq_true_eq, sameRow_iff _ samePE_iff, sameRow_iff _ sameRE_iff]
  cases a; cases b
  simp only [EntE.mk.injEq]
  constructor
  · rintro ⟨⟨⟨h1, h2, h3, h4, h5, h6⟩, h7⟩, h8⟩; exact ⟨h1, h2, h3, h4, h5, h6, h7, h8⟩
  · rintro ⟨h1, h2, h3, h4, h5, h6, h7, h8⟩; exact ⟨⟨⟨h1, h2, h3, h4, h5, h6⟩, h7⟩, h8⟩
theorem sameE_refl (a : EntE) : sameE a a = true := (sameE_iff a a).2 rfl

end Go.Proofs.YtpmafabphlejeaaGreat
/-
  The contracts of the small functions of package entry.
  Conditions: none but sizes.
-/
namespace Go.Proofs.YtpmafabphlejeaaGreat
open Go.RowKit
set_option linter.unusedVariables false
set_option linter.unusedSimpArgs false
set_option maxRecDepth 100000

theorem qnOK_iff (s : ByteArray) : qnOK s = true ↔ 1 ≤ s.size ∧ s.size ≤ 40 ∧ ∀ j (h : j < (sb s).length), qcOK (sb s)[j] = true := by
  simp only [qnOK, Bool.and_eq_true, decide_eq_true_eq, List.all_eq_true, and_assoc]
  refine and_congr Iff.rfl (and_congr Iff.rfl ⟨fun h j hj => h _ (List.getElem_mem hj), fun h x hx => ?_⟩)
  obtain ⟨j, hj, rfl⟩ := List.getElem_of_mem hx
  exact h j hj
theorem qnOK_false {s : ByteArray} (h : ¬ (1 ≤ s.size ∧ s.size ≤ 40 ∧ ∀ j (h : j < (sb s).length), qcOK (sb s)[j] = true)) : qnOK s = false := by
  cases e : qnOK s with
  | false => rfl
  | true => exact absurd ((qnOK_iff s).1 e) h

theorem qname_any (s : ByteArray) (w : World) (hs : s.size ≤ 140737488355328) : Calls Tryz.prog 56 #[.string s] w fun e w' => e = .returned (.bool (qnOK s)) ∧ w' = w := by
  obtain ⟨R, hR⟩ : ∃ R, R = qnOK s := ⟨_, rfl⟩
  rw [← hR]
  have HR := Lib.hid hR
  clear hR
  have hl := sb_length s
  by_cases h0 : s.size = 0
  · have ht : (s.toList == []) = true := by rw [sb_toList, List.eq_nil_of_length_eq_zero (hl.trans h0)]; rfl
    have hf : R = false := HR.out.trans (qnOK_false (by omega))
    clear hl h0
    go_enter Tryz.func56, Tryz.ntmps56
    go_wp2_with fail
    go_ret
    first | exact ⟨rfl, rfl⟩ | exact ⟨by rw [hf]; rfl, rfl⟩
  have ht : (s.toList == []) = false := by
    rw [sb_toList]
    cases e : sb s with
    | nil => rw [e] at hl; simp at hl; omega
    | cons x r => rfl
  by_cases h40 : 40 < s.size
  · have hf : R = false := HR.out.trans (qnOK_false (by omega))
    have h40' : decide ((40 : Int) < (s.size : Int)) = true := by simp; omega
    clear hl h0
    go_enter Tryz.func56, Tryz.ntmps56
    go_wp2_with fail
    go_ret
    first | exact ⟨rfl, rfl⟩ | exact ⟨by rw [hf]; rfl, rfl⟩
  have h40' : decide ((40 : Int) < (s.size : Int)) = false := by simp; omega
  have HL := Lib.hid hl
  have HP := Lib.hid (show 0 < s.size by omega)
  have H40 := Lib.hid h40
  clear hl h0 h40
  go_enter Tryz.func56, Tryz.ntmps56
  go_wp2_with fail
  go_loopw [13] (fun i wr => ∃ j : Nat, j ≤ s.size ∧ i = .int .i64 j ∧ wr = w ∧ ∀ k (h : k < (sb s).length), k < j → qcOK (sb s)[k] = true) (fun i _ => s.size - (intOf i).toNat)
  case atStart => exact ⟨0, by omega, rfl, rfl, fun k _ h => absurd h (by omega)⟩
  case round =>
    obtain ⟨j, hj, rfl, rfl, hok⟩ := hrel
    have hl := HL.out
    have h40 := H40.out
    by_cases hlt : j < s.size
    · have b1 : (j : Int) < (s.size : Int) := by omega
      have b3 : IntKind.i64.wrap ((j : Int) + 1) = (j : Int) + 1 := i64_id _ (by omega) (by omega)
      have e1 : (sb s)[j]'(by omega) = s[j] := rfl
      by_cases hb : qcOK s[j] = true
      · have HS := Lib.hid (show ∀ k (h : k < (sb s).length), k < j + 1 → qcOK (sb s)[k] = true from fun k hk hkj => by
          by_cases c : k < j
          · exact hok k hk c
          · obtain rfl : k = j := by omega
            rw [e1]; exact hb)
        have t1 : decide ((s[j].toNat : Int) < 33) = false := by simp [qcOK] at hb; simp; omega
        have t2 : decide ((126 : Int) < (s[j].toNat : Int)) = false := by simp [qcOK] at hb; simp; omega
        clear hb hok e1 hl h40
        go_wp2_with fail
        go_roundw
        case rel => exact ⟨j + 1, by omega, by go_num, trivial, HS.out⟩
        case measure => simp [intOf]; omega
      · have hf : R = false := HR.out.trans (qnOK_false fun h => hb (by have := h.2.2 j (by omega); rwa [e1] at this))
        by_cases h33 : s[j].toNat < 33
        case' pos => have t1 : decide ((s[j].toNat : Int) < 33) = true := by simp; omega
        case' neg =>
          have t1 : decide ((s[j].toNat : Int) < 33) = false := by simp; omega
          have t2 : decide ((126 : Int) < (s[j].toNat : Int)) = true := by simp [qcOK] at hb; simp; omega
        all_goals
          clear hb hok e1 hl h40 h33
          go_wp2_with fail
          go_ret
          first | exact ⟨rfl, rfl⟩ | exact ⟨by rw [hf]; rfl, rfl⟩
    · have hf : R = true := HR.out.trans ((qnOK_iff _).2 ⟨by have := HP.out; omega, by omega, fun k hk => hok k hk (by omega)⟩)
      have b1 : ¬ (j : Int) < (s.size : Int) := by omega
      clear hok hl h40
      go_wp2_with fail
      go_ret
      first | exact ⟨rfl, rfl⟩ | exact ⟨by rw [hf]; rfl, rfl⟩

/-- The fields that a kind uses. -/
def flD (k : Nat) : Nat := if k = 1 then 3 else if k = 2 then 1 else if k = 3 then 8 else if k = 4 then 12 else if k = 5 ∨ k = 7 then 6 else if k = 6 ∨ k = 8 ∨ k = 9 then 4 else 0
theorem kinds_cases (k : Nat) : k = 1 ∨ k = 2 ∨ k = 3 ∨ k = 4 ∨ k = 5 ∨ k = 6 ∨ k = 7 ∨ k = 8 ∨ k = 9 ∨ (k ≠ 1 ∧ k ≠ 2 ∧ k ≠ 3 ∧ k ≠ 4 ∧ k ≠ 5 ∧ k ≠ 6 ∧ k ≠ 7 ∧ k ≠ 8 ∧ k ≠ 9) := by omega
theorem flD_lt (k : Nat) : flD k < 16 := by
  unfold flD
  split <;> (try omega); split <;> (try omega); split <;> (try omega); split <;> (try omega); split <;> (try omega); split <;> omega
theorem flD_none {k : Nat} (h : k ≠ 1 ∧ k ≠ 2 ∧ k ≠ 3 ∧ k ≠ 4 ∧ k ≠ 5 ∧ k ≠ 6 ∧ k ≠ 7 ∧ k ≠ 8 ∧ k ≠ 9) : flD k = 0 := by
  unfold flD
  rw [if_neg (by omega), if_neg (by omega), if_neg (by omega), if_neg (by omega), if_neg (by omega), if_neg (by omega)]
theorem flD_bits (k : Nat) : decide (flD k &&& 1 ≠ 0) = uName k ∧ decide (flD k &&& 2 ≠ 0) = uNum k ∧ decide (flD k &&& 4 ≠ 0) = uX k ∧ decide (flD k &&& 8 ≠ 0) = uWork k ∧ decide (flD k ≠ 0) = kindOK k := by
  rcases kinds_cases k with rfl | rfl | rfl | rfl | rfl | rfl | rfl | rfl | rfl | h
  case inr.inr.inr.inr.inr.inr.inr.inr.inr =>
    rw [flD_none h]
    unfold uName uNum uX uWork kindOK
    refine ⟨?_, ?_, ?_, ?_, ?_⟩
    all_goals
      rw [eq_comm, decide_eq_false (by omega)]
      rfl
  all_goals exact ⟨by decide, by decide, by decide, by decide, by decide⟩

set_option maxHeartbeats 1000000 in
theorem fields_any (k : Nat) (w : World) : Calls Tryz.prog 53 #[.int .u8 k] w fun e w' => e = .returned (.int .u8 (flD k)) ∧ w' = w := by
  rcases kinds_cases k with rfl | rfl | rfl | rfl | rfl | rfl | rfl | rfl | rfl | h
  case inr.inr.inr.inr.inr.inr.inr.inr.inr =>
    rw [flD_none h]
    obtain ⟨h1, h2, h3, h4, h5, h6, h7, h8, h9⟩ := h
    have t1 : ((k : Int) == 1) = false := by simp; omega
    have t2 : ((k : Int) == 2) = false := by simp; omega
    have t3 : ((k : Int) == 3) = false := by simp; omega
    have t4 : ((k : Int) == 4) = false := by simp; omega
    have t5 : ((k : Int) == 5) = false := by simp; omega
    have t6 : ((k : Int) == 6) = false := by simp; omega
    have t7 : ((k : Int) == 7) = false := by simp; omega
    have t8 : ((k : Int) == 8) = false := by simp; omega
    have t9 : ((k : Int) == 9) = false := by simp; omega
    go_enter Tryz.func53, Tryz.ntmps53
    go_wp2_with fail
    go_ret
    exact ⟨rfl, rfl⟩
  all_goals
    go_enter Tryz.func53, Tryz.ntmps53
    go_wp2_with fail
    go_ret
    exact ⟨by first | rfl | (congr 2; decide +kernel), rfl⟩

theorem has_any (f b : Nat) (B : Int) (w : World) (hf : f < 256) (hb : b < 256) (hB : B = (b : Int)) : Calls Tryz.prog 55 #[.int .u8 f, .int .u8 B] w fun e w' => e = .returned (.bool (decide (f &&& b ≠ 0))) ∧ w' = w := by
  subst hB
  obtain ⟨R, hR⟩ : ∃ R, R = decide (f &&& b ≠ 0) := ⟨_, rfl⟩
  have h1 : (bits .and .u8 (f : Int) (b : Int) != 0) = R := by
    rw [u8_and_nat f b hf hb, hR, Bool.eq_iff_iff]
    simp only [bne_iff_ne, decide_eq_true_eq]
    omega
  rw [← hR]
  have H1 := Lib.hid h1
  clear hR
  go_enter Tryz.func55, Tryz.ntmps55
  go_wp2_with fail
  go_ret
  exact ⟨by first | rfl | rw [H1.out], rfl⟩
/-- The four questions about the fields of a kind. -/
theorem has_name (k : Nat) (w : World) : Calls Tryz.prog 55 #[.int .u8 (flD k), .int .u8 1] w fun e w' => e = .returned (.bool (uName k)) ∧ w' = w := by
  rw [← (flD_bits k).1]; exact has_any (flD k) 1 1 w (by have := flD_lt k; omega) (by decide) rfl
theorem has_num (k : Nat) (w : World) : Calls Tryz.prog 55 #[.int .u8 (flD k), .int .u8 2] w fun e w' => e = .returned (.bool (uNum k)) ∧ w' = w := by
  rw [← (flD_bits k).2.1]; exact has_any (flD k) 2 2 w (by have := flD_lt k; omega) (by decide) rfl
theorem has_x (k : Nat) (w : World) : Calls Tryz.prog 55 #[.int .u8 (flD k), .int .u8 4] w fun e w' => e = .returned (.bool (uX k)) ∧ w' = w := by
  rw [← (flD_bits k).2.2.1]; exact has_any (flD k) 4 4 w (by have := flD_lt k; omega) (by decide) rfl
theorem has_work (k : Nat) (w : World) : Calls Tryz.prog 55 #[.int .u8 (flD k), .int .u8 8] w fun e w' => e = .returned (.bool (uWork k)) ∧ w' = w := by
  rw [← (flD_bits k).2.2.2.1]; exact has_any (flD k) 8 8 w (by have := flD_lt k; omega) (by decide) rfl

def rightD (a b c : Bool) : Bool := if a = true then c else b
theorem right_any (a b c : Bool) (w : World) : Calls Tryz.prog 54 #[.bool a, .bool b, .bool c] w fun e w' => e = .returned (.bool (rightD a b c)) ∧ w' = w := by
  cases a
  all_goals
    go_enter Tryz.func54, Tryz.ntmps54
    go_wp2_with fail
    go_ret
    exact ⟨rfl, rfl⟩

theorem isMsg_any (n : Nat) (w : World) : Calls Tryz.prog 57 #[.int .u64 n] w fun e w' => e = .returned (.bool (msgOK n)) ∧ w' = w := by
  obtain ⟨b1, h1⟩ : ∃ b1, b1 = decide (1 ≤ n) := ⟨_, rfl⟩
  obtain ⟨b2, h2⟩ : ∃ b2, b2 = decide (n ≤ 1099511627776) := ⟨_, rfl⟩
  have e : msgOK n = (b1 && b2) := by rw [h1, h2]; unfold msgOK; rw [Bool.decide_and]
  rw [e]
  have t1 : decide ((1 : Int) ≤ (n : Int)) = b1 := by rw [h1, Bool.eq_iff_iff]; simp only [decide_eq_true_eq]; omega
  have t2 : decide ((n : Int) ≤ 1099511627776) = b2 := by rw [h2, Bool.eq_iff_iff]; simp only [decide_eq_true_eq]; omega
  clear e h1 h2
  cases b1
  all_goals
    go_enter Tryz.func57, Tryz.ntmps57
    go_wp2_with fail
    go_ret
    exact ⟨by first | rfl | (rw [t2]; rfl), rfl⟩

end Go.Proofs.YtpmafabphlejeaaGreat
/-
  Entries, puts and names of messages in memory.
  Conditions: none.
-/
namespace Go.Proofs.YtpmafabphlejeaaGreat
open Go.RowKit
set_option linter.unusedVariables false
set_option linter.unusedSimpArgs false

/-- A put, and how its App lies in memory. -/
structure PutC where
  e : PutE
  x : Cell5
def PutC.vs (c : PutC) : List Value := [.string c.e.q, .int .u64 c.e.id, .string c.e.p.key, .bool c.e.p.dur, .bool c.e.p.red, .string c.e.p.id, .int .u8 c.x.k, .int .u64 c.x.n, .string c.x.s, .slice c.x.a3 c.x.n3 c.x.c3, .slice c.x.a4 c.x.n4 c.x.c4, .string c.e.body]
def putC : Code PutC := { enc := PutC.vs, sz := 12, len := fun _ => rfl, one := fun x u hu => by simp [PutC.vs] at hu; rcases hu with rfl | rfl | rfl | rfl | rfl | rfl | rfl | rfl | rfl | rfl | rfl | rfl <;> rfl, pos := by omega }
def RefE.vs (r : RefE) : List Value := [.string r.q, .int .u64 r.id]
def refC : Code RefE := { enc := RefE.vs, sz := 2, len := fun _ => rfl, one := fun x u hu => by simp [RefE.vs] at hu; rcases hu with rfl | rfl <;> rfl, pos := by omega }
structure PutAt (w : World) (c : PutC) : Prop where
  q : c.e.q.size ≤ 140737488351232
  id : c.e.id < 18446744073709551616
  pr : ShowsP w c.e.p (.int .u8 c.x.k) (.int .u64 c.x.n) (.string c.x.s) (.slice c.x.a3 c.x.n3 c.x.c3) (.slice c.x.a4 c.x.n4 c.x.c4)
  body : c.e.body.size ≤ 140737488351232
theorem PutAt.kept {w w' : World} {B : Nat} {c : PutC} (h : PutAt w c) (hb : Below B w w') (hB : w.heap.size ≤ B) : PutAt w' c := ⟨h.q, h.id, h.pr.kept hb hB, h.body⟩
theorem PutAt.sub {w w' : World} {c : PutC} (h : PutAt w c) (hs : Sub w w') : PutAt w' c := ⟨h.q, h.id, h.pr.sub hs, h.body⟩
def RefAt (r : RefE) : Prop := r.q.size ≤ 140737488351232 ∧ r.id < 18446744073709551616
/-- A row of puts. -/
structure RowP (w : World) (A : Option Addr) (n : Nat) (cs : List PutC) : Prop where
  row : ∃ d, ShowsG putC w d (.slice A cs.length n) cs
  each : ∀ j (h : j < cs.length), PutAt w cs[j]
  lm : cs.length ≤ 1099511627776
/-- A row of names. -/
structure RowR (w : World) (A : Option Addr) (n : Nat) (rs : List RefE) : Prop where
  row : ∃ d, ShowsG refC w d (.slice A rs.length n) rs
  each : ∀ j (h : j < rs.length), RefAt rs[j]
  lm : rs.length ≤ 8796093022208
section
variable {w w' : World} {A : Option Addr} {n B : Nat} {cs : List PutC} {rs : List RefE}
theorem RowP.kept (h : RowP w A n cs) (hb : Below B w w') (hB : w.heap.size ≤ B) : RowP w' A n cs := by
  obtain ⟨d, hd⟩ := h.row
  exact ⟨⟨d, hd.below' hb hB⟩, fun j hj => (h.each j hj).kept hb hB, h.lm⟩
theorem RowR.kept (h : RowR w A n rs) (hb : Below B w w') (hB : w.heap.size ≤ B) : RowR w' A n rs := by
  obtain ⟨d, hd⟩ := h.row
  exact ⟨⟨d, hd.below' hb hB⟩, h.each, h.lm⟩
theorem RowP.sub (h : RowP w A n cs) (hs : Sub w w') : RowP w' A n cs := by
  obtain ⟨d, hd⟩ := h.row
  exact ⟨⟨d, hd.sub hs⟩, fun j hj => (h.each j hj).sub hs, h.lm⟩
theorem RowR.sub (h : RowR w A n rs) (hs : Sub w w') : RowR w' A n rs := by
  obtain ⟨d, hd⟩ := h.row
  exact ⟨⟨d, hd.sub hs⟩, h.each, h.lm⟩
theorem RowP.nil (w : World) : RowP w none 0 [] := ⟨⟨0, ShowsG.nil_ _ _ _⟩, fun j hj => absurd hj (by simp), by simp⟩
theorem RowR.nil (w : World) : RowR w none 0 [] := ⟨⟨0, ShowsG.nil_ _ _ _⟩, fun j hj => absurd hj (by simp), by simp⟩
/-- The cells of a put in a row. -/
theorem RowP.at_ (h : RowP w A n cs) (j : Nat) (hj : j < cs.length) : ∃ d o, A = some ⟨d, o, none⟩ ∧ d < w.heap.size ∧
    ((w.cell? ⟨d, o + j * 12, none⟩ = some (.string cs[j].e.q) ∧ w.cell? ⟨d, o + j * 12 + 1, none⟩ = some (.int .u64 cs[j].e.id) ∧ w.cell? ⟨d, o + j * 12 + 2, none⟩ = some (.string cs[j].e.p.key) ∧ w.cell? ⟨d, o + j * 12 + 3, none⟩ = some (.bool cs[j].e.p.dur) ∧ w.cell? ⟨d, o + j * 12 + 4, none⟩ = some (.bool cs[j].e.p.red) ∧ w.cell? ⟨d, o + j * 12 + 5, none⟩ = some (.string cs[j].e.p.id)) ∧
    (w.cell? ⟨d, o + j * 12 + 6, none⟩ = some (.int .u8 cs[j].x.k) ∧ w.cell? ⟨d, o + j * 12 + 7, none⟩ = some (.int .u64 cs[j].x.n) ∧ w.cell? ⟨d, o + j * 12 + 8, none⟩ = some (.string cs[j].x.s) ∧ w.cell? ⟨d, o + j * 12 + 9, none⟩ = some (.slice cs[j].x.a3 cs[j].x.n3 cs[j].x.c3) ∧ w.cell? ⟨d, o + j * 12 + 10, none⟩ = some (.slice cs[j].x.a4 cs[j].x.n4 cs[j].x.c4) ∧ w.cell? ⟨d, o + j * 12 + 11, none⟩ = some (.string cs[j].e.body))) := by
  obtain ⟨d, hd⟩ := h.row
  obtain ⟨o, rfl, hdl, hc⟩ := hd.at_ (by omega)
  have q := fun k hk => hc j hj k hk
  have e : ∀ k, k < 12 → w.cell? ⟨d, o + j * 12 + k, none⟩ = (PutC.vs cs[j])[k]? := fun k hk => by
    have := q k hk
    rw [show o + (j * putC.sz + k) = o + j * 12 + k from (Nat.add_assoc o (j * 12) k).symm] at this
    exact this
  exact ⟨d, o, rfl, hdl, ⟨e 0 (by omega), e 1 (by omega), e 2 (by omega), e 3 (by omega), e 4 (by omega), e 5 (by omega)⟩, e 6 (by omega), e 7 (by omega), e 8 (by omega), e 9 (by omega), e 10 (by omega), e 11 (by omega)⟩
theorem RowR.at_ (h : RowR w A n rs) (j : Nat) (hj : j < rs.length) : ∃ d o, A = some ⟨d, o, none⟩ ∧ d < w.heap.size ∧ w.cell? ⟨d, o + j * 2, none⟩ = some (.string rs[j].q) ∧ w.cell? ⟨d, o + j * 2 + 1, none⟩ = some (.int .u64 rs[j].id) := by
  obtain ⟨d, hd⟩ := h.row
  obtain ⟨o, rfl, hdl, hc⟩ := hd.at_ (by omega)
  have e : ∀ k, k < 2 → w.cell? ⟨d, o + j * 2 + k, none⟩ = (RefE.vs rs[j])[k]? := fun k hk => by
    have := hc j hj k hk
    rw [show o + (j * refC.sz + k) = o + j * 2 + k from (Nat.add_assoc o (j * 2) k).symm] at this
    exact this
  exact ⟨d, o, rfl, hdl, e 0 (by omega), e 1 (by omega)⟩
end

/-- An entry, and how its rows lie. -/
structure EntC where
  k : Nat
  name : ByteArray
  n : Nat
  xf : Nat
  xg : ByteArray
  xh : ByteArray
  A1 : Option Addr
  c1 : Nat
  cs : List PutC
  A2 : Option Addr
  c2 : Nat
  rs : List RefE
def esOf (cs : List PutC) : List PutE := cs.map (·.e)
theorem esOf_len (cs : List PutC) : (esOf cs).length = cs.length := by simp [esOf]
theorem esOf_get (cs : List PutC) (j : Nat) (h : j < cs.length) : (esOf cs)[j]'(by rw [esOf_len]; exact h) = cs[j].e := by simp [esOf]
theorem esOf_take (cs : List PutC) (j : Nat) : esOf (cs.take j) = (esOf cs).take j := by simp [esOf, List.map_take]
theorem esOf_snoc (cs : List PutC) (c : PutC) : esOf (cs ++ [c]) = esOf cs ++ [c.e] := by simp [esOf]
def EntC.e (x : EntC) : EntE := ⟨x.k, x.name, x.n, x.xf, x.xg, x.xh, esOf x.cs, x.rs⟩
def EntC.vs (x : EntC) : List Value := [.int .u8 x.k, .string x.name, .int .u64 x.n, .int .u32 x.xf, .string x.xg, .string x.xh, .slice x.A1 x.cs.length x.c1, .slice x.A2 x.rs.length x.c2]
def entV (x : EntC) : Value := .agg #[.int .u8 x.k, .string x.name, .int .u64 x.n, .int .u32 x.xf, .string x.xg, .string x.xh, .slice x.A1 x.cs.length x.c1, .slice x.A2 x.rs.length x.c2]
structure ShowsE (w : World) (x : EntC) : Prop where
  k : x.k < 256
  name : x.name.size ≤ 140737488351232
  n : x.n < 18446744073709551616
  xf : x.xf < 4294967296
  xg : x.xg.size ≤ 140737488351232
  xh : x.xh.size ≤ 140737488351232
  puts : RowP w x.A1 x.c1 x.cs
  takes : RowR w x.A2 x.c2 x.rs
section
variable {w w' : World} {B b : Nat} {x : EntC}
theorem ShowsE.kept (h : ShowsE w x) (hb : Below B w w') (hB : w.heap.size ≤ B) : ShowsE w' x := ⟨h.k, h.name, h.n, h.xf, h.xg, h.xh, h.puts.kept hb hB, h.takes.kept hb hB⟩
theorem ShowsE.sub (h : ShowsE w x) (hs : Sub w w') : ShowsE w' x := ⟨h.k, h.name, h.n, h.xf, h.xg, h.xh, h.puts.sub hs, h.takes.sub hs⟩
/-- Eight cells in a block of the call's own. -/
def BoxE (w : World) (b : Nat) (x : EntC) : Prop := w.heap[b]? = some (.cells #[.int .u8 x.k, .string x.name, .int .u64 x.n, .int .u32 x.xf, .string x.xg, .string x.xh, .slice x.A1 x.cs.length x.c1, .slice x.A2 x.rs.length x.c2] 57 (0, 0))
theorem BoxE.new (w : World) : BoxE (w.alloc (Obj.cells #[.int .u8 x.k, .string x.name, .int .u64 x.n, .int .u32 x.xf, .string x.xg, .string x.xh, .slice x.A1 x.cs.length x.c1, .slice x.A2 x.rs.length x.c2] 57)) w.heap.size x := heap_alloc_new w _
theorem BoxE.lt (h : BoxE w b x) : b < w.heap.size := (Array.getElem?_eq_some_iff.1 h).1
theorem BoxE.kept (h : BoxE w b x) (hb : Below B w w') (hB : w.heap.size ≤ B) : BoxE w' b x := (hb.block b (Nat.lt_of_lt_of_le h.lt hB)).trans h
theorem BoxE.fr (h : BoxE w b x) (i : Nat) : w.frozen? ⟨b, i, none⟩ = false := frozen_of_row w b i _ 57 h
theorem BoxE.cells (h : BoxE w b x) : (w.cell? ⟨b, 0, none⟩ = some (.int .u8 x.k) ∧ w.cell? ⟨b, 1, none⟩ = some (.string x.name) ∧ w.cell? ⟨b, 2, none⟩ = some (.int .u64 x.n)) ∧ (w.cell? ⟨b, 3, none⟩ = some (.int .u32 x.xf) ∧ w.cell? ⟨b, 4, none⟩ = some (.string x.xg) ∧ w.cell? ⟨b, 5, none⟩ = some (.string x.xh)) ∧
    w.cell? ⟨b, 6, none⟩ = some (.slice x.A1 x.cs.length x.c1) ∧ w.cell? ⟨b, 7, none⟩ = some (.slice x.A2 x.rs.length x.c2) :=
  ⟨⟨cell_of_row w b 0 _ 57 (0, 0) h, cell_of_row w b 1 _ 57 (0, 0) h, cell_of_row w b 2 _ 57 (0, 0) h⟩,
    ⟨cell_of_row w b 3 _ 57 (0, 0) h, cell_of_row w b 4 _ 57 (0, 0) h, cell_of_row w b 5 _ 57 (0, 0) h⟩,
    cell_of_row w b 6 _ 57 (0, 0) h, cell_of_row w b 7 _ 57 (0, 0) h⟩
end
def putV (c : PutC) : Value := .agg #[.string c.e.q, .int .u64 c.e.id, .string c.e.p.key, .bool c.e.p.dur, .bool c.e.p.red, .string c.e.p.id, .int .u8 c.x.k, .int .u64 c.x.n, .string c.x.s, .slice c.x.a3 c.x.n3 c.x.c3, .slice c.x.a4 c.x.n4 c.x.c4, .string c.e.body]
section
variable {w w' : World} {B b : Nat} {c : PutC}
/-- Twelve cells in a block of the call's own. -/
def BoxT (w : World) (b : Nat) (c : PutC) : Prop := w.heap[b]? = some (.cells #[.string c.e.q, .int .u64 c.e.id, .string c.e.p.key, .bool c.e.p.dur, .bool c.e.p.red, .string c.e.p.id, .int .u8 c.x.k, .int .u64 c.x.n, .string c.x.s, .slice c.x.a3 c.x.n3 c.x.c3, .slice c.x.a4 c.x.n4 c.x.c4, .string c.e.body] 35 (0, 0))
theorem BoxT.new (w : World) : BoxT (w.alloc (Obj.cells #[.string c.e.q, .int .u64 c.e.id, .string c.e.p.key, .bool c.e.p.dur, .bool c.e.p.red, .string c.e.p.id, .int .u8 c.x.k, .int .u64 c.x.n, .string c.x.s, .slice c.x.a3 c.x.n3 c.x.c3, .slice c.x.a4 c.x.n4 c.x.c4, .string c.e.body] 35)) w.heap.size c := heap_alloc_new w _
theorem BoxT.lt (h : BoxT w b c) : b < w.heap.size := (Array.getElem?_eq_some_iff.1 h).1
theorem BoxT.kept (h : BoxT w b c) (hb : Below B w w') (hB : w.heap.size ≤ B) : BoxT w' b c := (hb.block b (Nat.lt_of_lt_of_le h.lt hB)).trans h
theorem BoxT.fr (h : BoxT w b c) (i : Nat) : w.frozen? ⟨b, i, none⟩ = false := frozen_of_row w b i _ 35 h
theorem BoxT.cells (h : BoxT w b c) : (w.cell? ⟨b, 0, none⟩ = some (.string c.e.q) ∧ w.cell? ⟨b, 1, none⟩ = some (.int .u64 c.e.id) ∧ w.cell? ⟨b, 2, none⟩ = some (.string c.e.p.key) ∧ w.cell? ⟨b, 3, none⟩ = some (.bool c.e.p.dur) ∧ w.cell? ⟨b, 4, none⟩ = some (.bool c.e.p.red) ∧ w.cell? ⟨b, 5, none⟩ = some (.string c.e.p.id)) ∧
    (w.cell? ⟨b, 6, none⟩ = some (.int .u8 c.x.k) ∧ w.cell? ⟨b, 7, none⟩ = some (.int .u64 c.x.n) ∧ w.cell? ⟨b, 8, none⟩ = some (.string c.x.s) ∧ w.cell? ⟨b, 9, none⟩ = some (.slice c.x.a3 c.x.n3 c.x.c3) ∧ w.cell? ⟨b, 10, none⟩ = some (.slice c.x.a4 c.x.n4 c.x.c4) ∧ w.cell? ⟨b, 11, none⟩ = some (.string c.e.body)) :=
  ⟨⟨cell_of_row w b 0 _ 35 (0, 0) h, cell_of_row w b 1 _ 35 (0, 0) h, cell_of_row w b 2 _ 35 (0, 0) h, cell_of_row w b 3 _ 35 (0, 0) h, cell_of_row w b 4 _ 35 (0, 0) h, cell_of_row w b 5 _ 35 (0, 0) h⟩,
    ⟨cell_of_row w b 6 _ 35 (0, 0) h, cell_of_row w b 7 _ 35 (0, 0) h, cell_of_row w b 8 _ 35 (0, 0) h, cell_of_row w b 9 _ 35 (0, 0) h, cell_of_row w b 10 _ 35 (0, 0) h, cell_of_row w b 11 _ 35 (0, 0) h⟩⟩
end
def refV (r : RefE) : Value := .agg #[.string r.q, .int .u64 r.id]

end Go.Proofs.YtpmafabphlejeaaGreat
