/-
  Texts, together: CrcT, CrcA.
  Conditions: none but sizes.
-/
import Derived.Test.YtdjahdnaihijjaaGreatDoorMemZ
import Derived.Laws.BitsAllLaws
/-
  The arithmetic of the checksum's register on natural numbers: one step is linear over XOR, what it does to the bits of a text, and that it loses nothing.
  Conditions: none. Nothing here speaks of the program.
-/
namespace Go.Proofs.YtdjahdnaihijjaaGreatDoor
namespace Crc

/-- One step of the register. -/
def T (x : Nat) : Nat := (x / 2) ^^^ (if x % 2 = 1 then 2197175160 else 0)
def Tn : Nat → Nat → Nat
  | 0, x => x
  | n + 1, x => Tn n (T x)

theorem xor4 (a b c d : Nat) : (a ^^^ b) ^^^ (c ^^^ d) = (a ^^^ c) ^^^ (b ^^^ d) := by
  apply Nat.eq_of_testBit_eq
  intro i
  simp only [Nat.testBit_xor]
  cases a.testBit i <;> cases b.testBit i <;> cases c.testBit i <;> cases d.testBit i <;> rfl

theorem xor_div2 (a b : Nat) : (a ^^^ b) / 2 = a / 2 ^^^ b / 2 := by
  apply Nat.eq_of_testBit_eq
  intro i
  simp only [Nat.testBit_xor, ← Nat.testBit_succ]

theorem xor_mod2 (a b : Nat) : (a ^^^ b) % 2 = (a + b) % 2 := by
  have h := Nat.testBit_xor a b 0
  simp only [Nat.testBit_zero] at h
  have ha : a % 2 = 0 ∨ a % 2 = 1 := by omega
  have hb : b % 2 = 0 ∨ b % 2 = 1 := by omega
  have hc : (a ^^^ b) % 2 = 0 ∨ (a ^^^ b) % 2 = 1 := by omega
  rcases ha with ha | ha <;> rcases hb with hb | hb <;> rcases hc with hc | hc <;> simp [ha, hb, hc] at h <;> omega

theorem T_zero : T 0 = 0 := rfl
theorem T_xor (a b : Nat) : T (a ^^^ b) = T a ^^^ T b := by
  unfold T
  rw [xor_div2, xor_mod2, xor4]
  congr 1
  have ha : a % 2 = 0 ∨ a % 2 = 1 := by omega
  have hb : b % 2 = 0 ∨ b % 2 = 1 := by omega
  rcases ha with ha | ha <;> rcases hb with hb | hb
  · rw [if_neg (by omega), if_neg (by omega), if_neg (by omega)]; rfl
  · rw [if_pos (by omega), if_neg (by omega), if_pos (by omega)]; rfl
  · rw [if_pos (by omega), if_pos (by omega), if_neg (by omega)]; rfl
  · rw [if_neg (by omega), if_pos (by omega), if_pos (by omega)]; rfl
theorem T_double (a : Nat) : T (2 * a) = a := by
  unfold T
  rw [if_neg (by omega), Nat.xor_zero]
  omega
theorem T_lt {a : Nat} (h : a < 4294967296) : T a < 4294967296 := by
  unfold T
  refine Nat.xor_lt_two_pow (n := 32) (by omega) ?_
  split <;> omega

theorem Tn_zero : ∀ n, Tn n 0 = 0
  | 0 => rfl
  | n + 1 => Tn_zero n
theorem Tn_xor : ∀ n a b, Tn n (a ^^^ b) = Tn n a ^^^ Tn n b
  | 0, _, _ => rfl
  | n + 1, a, b => by rw [Tn, T_xor, Tn_xor n]; rfl
theorem Tn_add : ∀ m n a, Tn (m + n) a = Tn n (Tn m a)
  | 0, n, a => by rw [Nat.zero_add]; rfl
  | m + 1, n, a => by rw [show m + 1 + n = (m + n) + 1 by omega]; exact Tn_add m n (T a)
theorem Tn_lt : ∀ n {a : Nat}, a < 4294967296 → Tn n a < 4294967296
  | 0, _, h => h
  | n + 1, _, h => Tn_lt n (T_lt h)
theorem Tn_shift : ∀ n a, Tn n (a * 2 ^ n) = a
  | 0, a => by simp [Tn]
  | n + 1, a => by
    rw [show a * 2 ^ (n + 1) = 2 * (a * 2 ^ n) by rw [Nat.pow_succ]; rw [← Nat.mul_assoc, Nat.mul_comm]]
    rw [Tn, T_double]
    exact Tn_shift n a

/-- No two registers have one successor. -/
theorem T_eq_zero {a : Nat} (h : a < 4294967296) (h0 : T a = 0) : a = 0 := by
  unfold T at h0
  by_cases h1 : a % 2 = 1
  · rw [if_pos h1] at h0
    have h2 : a / 2 = 2197175160 := by
      apply Nat.eq_of_testBit_eq
      intro i
      have := congrArg (fun x => Nat.testBit x i) h0
      simp only [Nat.testBit_xor, Nat.zero_testBit] at this
      cases h3 : (a / 2).testBit i <;> cases h4 : Nat.testBit 2197175160 i <;> simp_all
    omega
  · rw [if_neg h1, Nat.xor_zero] at h0
    omega
theorem Tn_eq_zero : ∀ n {a : Nat}, a < 4294967296 → Tn n a = 0 → a = 0
  | 0, _, _, h0 => h0
  | n + 1, _, h, h0 => T_eq_zero h (Tn_eq_zero n (T_lt h) h0)
theorem xor_eq_zero {a b : Nat} (h : a ^^^ b = 0) : a = b := by
  apply Nat.eq_of_testBit_eq
  intro i
  have := congrArg (fun x => Nat.testBit x i) h
  simp only [Nat.testBit_xor, Nat.zero_testBit] at this
  cases h3 : a.testBit i <;> cases h4 : b.testBit i <;> simp_all
theorem Tn_inj (n : Nat) {a b : Nat} (ha : a < 4294967296) (hb : b < 4294967296) (h : Tn n a = Tn n b) : a = b := by
  refine xor_eq_zero (Tn_eq_zero n (Nat.xor_lt_two_pow (n := 32) ha hb) ?_)
  rw [Tn_xor, h, Nat.xor_self]

/-- The table's entries: the effect of four bits. -/
def tab : List Nat := [0, 274646895, 549293790, 820201905, 1098587580, 1361435347, 1640403810, 1905808397, 2197175160, 2460548119, 2722870694, 2987750089, 3280807620, 3553878443, 3811616794, 4084100981]

theorem split16 (r : Nat) : r = (r / 16 * 2 ^ 4) ^^^ (r % 16) := by
  apply Nat.eq_of_testBit_eq
  intro i
  rw [Nat.testBit_xor, Nat.testBit_mul_two_pow, show r % 16 = r % 2 ^ 4 from rfl, Nat.testBit_mod_two_pow, show r / 16 = r / 2 ^ 4 from rfl, Nat.testBit_div_two_pow]
  by_cases h : i < 4
  · simp [h, show ¬ 4 ≤ i by omega]
  · simp [h, show 4 ≤ i by omega, show i - 4 + 4 = i by omega]

theorem tab_eq : ∀ i, i < 16 → Tn 4 i = tab.getD i 0 := by decide
theorem T4 (r : Nat) : Tn 4 r = r / 16 ^^^ tab.getD (r % 16) 0 := by
  have h : Tn 4 ((r / 16 * 2 ^ 4) ^^^ (r % 16)) = r / 16 ^^^ tab.getD (r % 16) 0 := by
    rw [Tn_xor, Tn_shift, tab_eq _ (Nat.mod_lt _ (by omega))]
  rw [← split16 r] at h
  exact h

/-- The register behind a text. -/
def run (r : Nat) : List UInt8 → Nat
  | [] => r
  | x :: l => run (Tn 8 (r ^^^ x.toNat)) l
set_option linter.unusedVariables false in
theorem run_append : ∀ (a b : List UInt8) (r : Nat), run r (a ++ b) = run (run r a) b
  | [], _, _ => rfl
  | x :: a, b, r => run_append a b _
theorem run_lt : ∀ (l : List UInt8) {r : Nat}, r < 4294967296 → run r l < 4294967296
  | [], _, h => h
  | x :: l, r, h => run_lt l (Tn_lt 8 (Nat.xor_lt_two_pow (n := 32) h (by have := x.toNat_lt; omega)))
theorem run_snoc (l : List UInt8) (x : UInt8) (r : Nat) : run r (l ++ [x]) = Tn 8 (run r l ^^^ x.toNat) := by
  rw [run_append]; rfl

/-- A text as a number, the first byte lowest. -/
def le : List UInt8 → Nat
  | [] => 0
  | x :: l => x.toNat + 256 * le l
theorem le_lt : ∀ l : List UInt8, le l < 2 ^ (8 * l.length)
  | [] => by simp [le]
  | x :: l => by
    have h1 := le_lt l
    have h2 := x.toNat_lt
    rw [List.length_cons, show 8 * (l.length + 1) = 8 * l.length + 8 by omega, Nat.pow_add]
    simp only [le]
    omega
theorem low_xor (x m : Nat) (h : x < 256) : x + 256 * m = x ^^^ (m * 2 ^ 8) := by
  apply Nat.eq_of_testBit_eq
  intro i
  rw [Nat.testBit_xor, Nat.testBit_mul_two_pow, show x + 256 * m = 2 ^ 8 * m + x by omega, Nat.testBit_two_pow_mul_add _ (by omega)]
  by_cases hi : i < 8
  · simp [hi, show ¬ 8 ≤ i by omega]
  · simp only [hi, show 8 ≤ i by omega, if_false, decide_true, Bool.true_and]
    rw [Nat.testBit_lt_two_pow (Nat.lt_of_lt_of_le (show x < 2 ^ 8 by omega) (Nat.pow_le_pow_right (by omega) (by omega)))]
    simp
/-- The register behind a text: all of its bits at once. -/
theorem run_eq : ∀ (l : List UInt8) (r : Nat), run r l = Tn (8 * l.length) (le l ^^^ r)
  | [], r => by simp [run, le, Tn]
  | x :: l, r => by
    rw [run, run_eq l, List.length_cons, show 8 * (l.length + 1) = 8 + 8 * l.length by omega, Tn_add]
    congr 1
    rw [le, low_xor _ _ (by have := x.toNat_lt; omega)]
    rw [show x.toNat ^^^ le l * 2 ^ 8 ^^^ r = (le l * 2 ^ 8) ^^^ (r ^^^ x.toNat) by
      rw [Nat.xor_comm x.toNat, Nat.xor_assoc, Nat.xor_comm x.toNat]]
    rw [Tn_xor 8 (le l * 2 ^ 8), Tn_shift]

/-- The checksum, from a checksum. -/
def more (s : Nat) (l : List UInt8) : Nat := run (s ^^^ 4294967295) l ^^^ 4294967295
def sum (l : List UInt8) : Nat := more 0 l
theorem more_lt {s : Nat} (h : s < 4294967296) (l : List UInt8) : more s l < 4294967296 :=
  Nat.xor_lt_two_pow (n := 32) (run_lt l (Nat.xor_lt_two_pow (n := 32) h (by omega))) (by omega)
theorem sum_lt (l : List UInt8) : sum l < 4294967296 := more_lt (by omega) l
theorem more_append (s : Nat) (a b : List UInt8) : more s (a ++ b) = more (more s a) b := by
  unfold more
  rw [run_append, Nat.xor_assoc, Nat.xor_self, Nat.xor_zero]

/-- Four bytes, the lowest first. -/
def le4 (n : Nat) : List UInt8 := [UInt8.ofNat n, UInt8.ofNat (n / 256), UInt8.ofNat (n / 65536), UInt8.ofNat (n / 16777216)]
theorem le_le4 {n : Nat} (h : n < 4294967296) : le (le4 n) = n := by
  simp [le4, le]
  omega
theorem le4_le : ∀ {l : List UInt8}, l.length = 4 → le4 (le l) = l
  | [a, b, c, d], _ => by
    have ha := a.toNat_lt
    have hb := b.toNat_lt
    have hc := c.toNat_lt
    have hd := d.toNat_lt
    simp only [le4, le]
    congr 1
    · apply UInt8.toNat_inj.1; simp
    · congr 1
      · apply UInt8.toNat_inj.1; simp; omega
      · congr 1
        · apply UInt8.toNat_inj.1; simp; omega
        · congr 1
          apply UInt8.toNat_inj.1; simp; omega

/-- A text, sealed; and what is opened. -/
def sealD (l : List UInt8) : List UInt8 := l ++ le4 (sum l)
def okSeal (l : List UInt8) : Prop := 4 ≤ l.length ∧ sum (l.take (l.length - 4)) = le (l.drop (l.length - 4))
theorem sealD_length (l : List UInt8) : (sealD l).length = l.length + 4 := by simp [sealD, le4]
theorem sealD_ok (l : List UInt8) : okSeal (sealD l) := by
  refine ⟨by rw [sealD_length]; omega, ?_⟩
  rw [sealD_length, show l.length + 4 - 4 = l.length by omega, sealD, List.take_left, List.drop_left, le_le4 (sum_lt l)]
theorem okSeal_iff (l : List UInt8) : okSeal l ↔ 4 ≤ l.length ∧ sealD (l.take (l.length - 4)) = l := by
  constructor
  · rintro ⟨h1, h2⟩
    refine ⟨h1, ?_⟩
    unfold sealD
    rw [h2, le4_le (by simp; omega), List.take_append_drop]
  · rintro ⟨h1, h2⟩
    rw [← h2]
    exact sealD_ok _

/-- Sealed bytes lead to one and the same register. -/
theorem okSeal_run {l : List UInt8} (h4 : 4 ≤ l.length) : okSeal l ↔ run 4294967295 l = Tn 32 4294967295 := by
  have e : run 4294967295 l = Tn 32 (le (l.drop (l.length - 4)) ^^^ run 4294967295 (l.take (l.length - 4))) := by
    have : run 4294967295 (l.take (l.length - 4) ++ l.drop (l.length - 4)) = run 4294967295 l := by rw [List.take_append_drop]
    rw [← this, run_append, run_eq (l.drop _)]
    congr 1
    simp; omega
  have hl : le (l.drop (l.length - 4)) < 4294967296 := by
    have := le_lt (l.drop (l.length - 4))
    rw [show (l.drop (l.length - 4)).length = 4 by simp; omega] at this
    exact this
  have hr : run 4294967295 (l.take (l.length - 4)) < 4294967296 := run_lt _ (by omega)
  rw [e]
  unfold okSeal sum more
  rw [Nat.zero_xor]
  constructor
  · rintro ⟨_, h⟩
    rw [← h, Nat.xor_comm, ← Nat.xor_assoc, Nat.xor_self, Nat.zero_xor]
  · intro h
    refine ⟨h4, ?_⟩
    have := Tn_inj 32 (Nat.xor_lt_two_pow (n := 32) hl hr) (by omega) h
    generalize run 4294967295 (l.take (l.length - 4)) = b at this ⊢
    generalize le (l.drop (l.length - 4)) = a at this ⊢
    rw [← this, Nat.xor_comm a, ← Nat.xor_assoc, Nat.xor_self, Nat.zero_xor]

/-- A bit of one byte turned: that bit of the whole text is turned. -/
theorem le_set : ∀ (l : List UInt8) (j b : Nat) (y : UInt8), b < 8 → (h : j < l.length) → y.toNat = l[j].toNat ^^^ 2 ^ b → le (l.set j y) = le l ^^^ 2 ^ (8 * j + b)
  | x :: l, 0, b, y, hb, _, hy => by
    have hx := x.toNat_lt
    have hp : 2 ^ b < 256 := Nat.lt_of_lt_of_le (Nat.pow_lt_pow_right (by omega) hb) (by decide)
    have hy2 := y.toNat_lt
    simp only [List.getElem_cons_zero] at hy
    simp only [List.set_cons_zero, le, Nat.mul_zero, Nat.zero_add]
    rw [low_xor _ _ hy2, low_xor _ _ hx, hy, Nat.xor_assoc, Nat.xor_assoc, Nat.xor_comm (2 ^ b)]
  | x :: l, j + 1, b, y, hb, h, hy => by
    have hx := x.toNat_lt
    simp only [List.getElem_cons_succ] at hy
    have ih := le_set l j b y hb (by simpa using h) hy
    simp only [List.set_cons_succ, le]
    rw [ih, low_xor _ _ hx, low_xor _ _ hx, Nat.xor_assoc]
    congr 1
    rw [show 8 * (j + 1) + b = (8 * j + b) + 8 by omega, Nat.pow_add 2 (8 * j + b) 8]
    generalize 2 ^ (8 * j + b) = z
    apply Nat.eq_of_testBit_eq
    intro i
    simp only [Nat.testBit_xor, Nat.testBit_mul_two_pow]
    cases decide (8 ≤ i) <;> simp

/-- The bits that are turned, of those below i: N bits in all, from place f on. -/
def ebits (v f N i : Nat) : Nat := v % 2 ^ i * 2 ^ f % 2 ^ N
theorem ebits_bit (v f N i p : Nat) : (ebits v f N i).testBit p = (decide (p < N) && (decide (f ≤ p) && (decide (p - f < i) && v.testBit (p - f)))) := by
  simp only [ebits, Nat.testBit_mod_two_pow, Nat.testBit_mul_two_pow]
theorem ebits_zero (v f N : Nat) : ebits v f N 0 = 0 := by simp [ebits, Nat.mod_one]
theorem ebits_stay (v f N i : Nat) (h : v.testBit i = false ∨ N ≤ f + i) : ebits v f N (i + 1) = ebits v f N i := by
  apply Nat.eq_of_testBit_eq
  intro p
  rw [ebits_bit, ebits_bit]
  by_cases hp : p - f = i
  · by_cases h1 : f ≤ p
    · rcases h with h | h
      · simp [hp, h]
      · simp [show ¬ p < N by omega]
    · simp [h1]
  · rw [show decide (p - f < i + 1) = decide (p - f < i) by simp; omega]
theorem ebits_flip (v f N i : Nat) (h : v.testBit i = true) (h2 : f + i < N) : ebits v f N (i + 1) = ebits v f N i ^^^ 2 ^ (f + i) := by
  apply Nat.eq_of_testBit_eq
  intro p
  rw [Nat.testBit_xor, ebits_bit, ebits_bit, Nat.testBit_two_pow]
  by_cases hp : p = f + i
  · subst hp
    simp [h, h2, show f + i - f = i by omega]
  · rw [show decide (f + i = p) = false by simp; omega, Bool.xor_false]
    by_cases h1 : f ≤ p
    · rw [show decide (p - f < i + 1) = decide (p - f < i) by simp; omega]
    · simp [h1]
theorem ebits_flip_ne (v f N i : Nat) (h : v.testBit i = true) (h2 : f + i < N) : ebits v f N (i + 1) ≠ 0 := by
  intro h0
  have := ebits_bit v f N (i + 1) (f + i)
  rw [h0] at this
  simp [h, h2, show f + i - f = i by omega] at this
theorem ebits_run (v f N : Nat) (hf : f ≤ N) (h : Tn N (ebits v f N 32) = 0) : ebits v f N 32 = 0 := by
  have e : ebits v f N 32 = (v % 2 ^ 32 % 2 ^ (N - f)) * 2 ^ f := by
    unfold ebits
    rw [show 2 ^ N = 2 ^ (N - f) * 2 ^ f by rw [← Nat.pow_add]; congr 1; omega, Nat.mul_mod_mul_right]
  have hlt : v % 2 ^ 32 % 2 ^ (N - f) < 4294967296 := Nat.lt_of_le_of_lt (Nat.mod_le _ _) (Nat.mod_lt _ (by decide))
  rw [e] at h ⊢
  rw [show N = f + (N - f) by omega, Tn_add, show f + (N - f) - f = N - f by omega, Tn_shift] at h
  rw [Tn_eq_zero _ hlt h, Nat.zero_mul]

/-- Turned bits within 32 that stand one behind the other are always told. -/
theorem burst (l m : List UInt8) (v f : Nat) (hl : okSeal l) (hlen : m.length = l.length) (hf : f ≤ 8 * l.length) (hm : le m = le l ^^^ ebits v f (8 * l.length) 32) :
    okSeal m ↔ ebits v f (8 * l.length) 32 = 0 := by
  have h4 := hl.1
  have e : run 4294967295 m = run 4294967295 l ^^^ Tn (8 * l.length) (ebits v f (8 * l.length) 32) := by
    rw [run_eq, run_eq, hlen, hm, ← Tn_xor]
    congr 1
    rw [Nat.xor_assoc, Nat.xor_comm (ebits _ _ _ _), ← Nat.xor_assoc]
  have h1 := (okSeal_run h4).1 hl
  rw [okSeal_run (l := m) (by omega), e, h1]
  constructor
  · intro h
    refine ebits_run v f _ hf ?_
    have := congrArg (fun x => Tn 32 4294967295 ^^^ x) h
    simpa only [← Nat.xor_assoc, Nat.xor_self, Nat.zero_xor] using this
  · intro h
    rw [h, Tn_zero, Nat.xor_zero]

/-- Three texts of one length put together. -/
def x3 : List UInt8 → List UInt8 → List UInt8 → List UInt8
  | a :: l, b :: m, c :: n => (a ^^^ b ^^^ c) :: x3 l m n
  | _, _, _ => []
theorem run_x3 : ∀ (a b c : List UInt8) (r s t : Nat), a.length = b.length → b.length = c.length → run (r ^^^ s ^^^ t) (x3 a b c) = run r a ^^^ run s b ^^^ run t c
  | [], [], [], r, s, t, _, _ => rfl
  | a :: l, b :: m, c :: n, r, s, t, h1, h2 => by
    simp only [x3, run]
    rw [← run_x3 l m n _ _ _ (by simpa using h1) (by simpa using h2), ← Tn_xor, ← Tn_xor]
    congr 2
    rw [UInt8.toNat_xor, UInt8.toNat_xor, xor4 (r ^^^ s) t (a.toNat ^^^ b.toNat) c.toNat, xor4 r s]
theorem sum_x3 (a b c : List UInt8) (h1 : a.length = b.length) (h2 : b.length = c.length) : sum (x3 a b c) = sum a ^^^ sum b ^^^ sum c := by
  unfold sum more
  simp only [Nat.zero_xor]
  have h := run_x3 a b c 4294967295 4294967295 4294967295 h1 h2
  rw [Nat.xor_self, Nat.zero_xor] at h
  rw [h, xor4 (run _ a), Nat.xor_self, Nat.xor_zero, Nat.xor_assoc]
theorem x3_length : ∀ (a b c : List UInt8), a.length = b.length → b.length = c.length → (x3 a b c).length = a.length
  | [], [], [], _, _ => rfl
  | a :: l, b :: m, c :: n, h1, h2 => by simp [x3, x3_length l m n (by simpa using h1) (by simpa using h2)]
theorem x3_get : ∀ (a b c : List UInt8) (i : Nat) (ha : i < a.length) (hb : i < b.length) (hc : i < c.length) (hx : i < (x3 a b c).length), (x3 a b c)[i] = a[i] ^^^ b[i] ^^^ c[i]
  | a :: l, b :: m, c :: n, 0, _, _, _, _ => rfl
  | a :: l, b :: m, c :: n, i + 1, ha, hb, hc, hx => by
    simp only [x3, List.getElem_cons_succ]
    exact x3_get l m n i _ _ _ _

end Crc
end Go.Proofs.YtdjahdnaihijjaaGreatDoor
/-
  The contracts of crc.shifted, crc.More, crc.Sum and of the document's More and Sum: the register's arithmetic.
  Conditions: the table reads as the program lays it.
-/
namespace Go.Proofs.YtdjahdnaihijjaaGreatDoor
namespace Crc
open Go.RowKit
set_option linter.unusedVariables false
set_option linter.unusedSimpArgs false

/-- The program's table reads as the register's arithmetic has it. -/
def Tab (w : World) : Prop := 0 < w.heap.size ∧ ∀ i, i < 16 → w.cell? ⟨0, i, none⟩ = some (.int .u32 (tab.getD i 0 : Nat))

theorem tab_lt (i : Nat) : tab.getD i 0 < 4294967296 := by
  by_cases h : i < 16
  · have : ∀ i, i < 16 → tab.getD i 0 < 4294967296 := by decide
    exact this i h
  · simp [List.getD, List.getElem?_eq_none (show tab.length ≤ i by simp [tab]; omega)]

theorem shifted_any (r : Nat) (w : World) (h : Tab w) (hr : r < 4294967296) :
    Calls Tryz.prog 69 #[.int .u32 r] w fun e w' => e = .returned (.int .u32 (Tn 4 r : Nat)) ∧ w = w' := by
  have hc := h.2 (r % 16) (Nat.mod_lt _ (by omega))
  have hlt := tab_lt (r % 16)
  have ht := T4 r
  generalize tab.getD (r % 16) 0 = v at hc hlt ht
  have ha : bits BinOp.and IntKind.u32 (r : Int) 15 = ((r % 16 : Nat) : Int) := by
    rw [show (15 : Int) = ((15 : Nat) : Int) from rfl, u32_and_nat _ _ hr (by omega), nat_mask4]
  have hx : bits BinOp.xor IntKind.u32 ((r : Int) / 16) (v : Int) = ((Tn 4 r : Nat) : Int) := by
    rw [show (r : Int) / 16 = ((r / 16 : Nat) : Int) by omega, u32_xor_nat _ _ (by omega) hlt, ht]
  clear ht
  have h16 : ((r % 16 : Nat) : Int) < 16 := by omega
  go_enter Tryz.func69, Tryz.ntmps69
  go_wp2_with fail
  go_ret
  exact ⟨rfl, rfl⟩

/-- What a walk says of one more byte, for a value that is a byte. -/
theorem xor_byte (r n : Nat) (hr : r < 4294967296) (hn : n < 256) : bits BinOp.xor IntKind.u32 (r : Int) (n : Int) = ((r ^^^ n : Nat) : Int) := u32_xor_nat _ _ hr (by omega)
theorem xor_lt (r n : Nat) (hr : r < 4294967296) (hn : n < 256) : r ^^^ n < 4294967296 := Nat.xor_lt_two_pow (n := 32) hr (by omega)

theorem flip_u32 (s : Nat) (hs : s < 4294967296) : bits BinOp.xor IntKind.u32 IntKind.u32.max (s : Int) = ((s ^^^ 4294967295 : Nat) : Int) := by
  rw [show IntKind.u32.max = (4294967295 : Int) from rfl, show (4294967295 : Int) = ((4294967295 : Nat) : Int) from rfl, u32_xor_nat _ _ (by omega) hs, Nat.xor_comm]

theorem Tab.below {w w' : World} {B : Nat} (h : Tab w) (hb : Below B w w') (h0 : 0 < B) : Tab w' :=
  ⟨by have := hb.size; have := h.1; omega, fun i hi => (World.cell?_of_block (w := w) (hb.block 0 h0)).trans (h.2 i hi)⟩

theorem more_any (A : Option Addr) (c s d : Nat) (l : List UInt8) (w : World) (h : Tab w) (hs : s < 4294967296) (hl : Shows w d (.slice A l.length c) l) (hb : l.length ≤ 140737488355328) :
    Calls Tryz.prog 48 #[.int .u32 s, .slice A l.length c] w fun e w' => e = .returned (.int .u32 (more s l : Nat)) ∧ w = w' := by
  have hsg : IntKind.u32.signed = false := rfl
  have hno := flip_u32 s hs
  have hr0 : s ^^^ 4294967295 < 4294967296 := Nat.xor_lt_two_pow (n := 32) hs (by omega)
  go_enter Tryz.func48, Tryz.ntmps48
  go_wp2_with fail
  go_loop [5, 11] (fun reg i => ∃ k : Nat, k ≤ l.length ∧ i = .int .i64 k ∧ reg = .int .u32 (run (s ^^^ 4294967295) (l.take k) : Nat)) (fun _ i => l.length - (intOf i).toNat)
  case atStart => exact ⟨0, Nat.zero_le _, rfl, by simp [run]⟩
  case round =>
    obtain ⟨k, hk, rfl, rfl⟩ := hrel
    have hrk := run_lt (l.take k) hr0
    by_cases hlt : k < l.length
    · obtain ⟨o, rfl, _, hcl⟩ := hl.at_ (by omega)
      have hcc : w.cell? ⟨d, o + k, none⟩ = some (.int .u8 (l[k]'hlt).toNat) := hcl k hlt
      have hlo : (l[k]'hlt).toNat < 256 := (l[k]'hlt).toNat_lt
      have hstep : run (s ^^^ 4294967295) (l.take (k + 1)) = Tn 4 (Tn 4 (run (s ^^^ 4294967295) (l.take k) ^^^ (l[k]'hlt).toNat)) := by
        rw [List.take_succ_eq_append_getElem hlt, run_snoc, ← Tn_add]
      generalize (l[k]'hlt).toNat = n at *
      generalize run (s ^^^ 4294967295) (l.take k) = r at *
      have hx := xor_byte r n hrk hlo
      have hxl := xor_lt r n hrk hlo
      have hlo' : (n : Int) < 4294967296 := by omega
      clear hcl
      have HS := Lib.hid hstep
      clear hstep
      go_wp2_with fail
      refine (shifted_any _ _ h hxl).mono ?_
      rintro e w' ⟨rfl, rfl⟩
      go_wp2_with fail
      refine (shifted_any _ _ h (Tn_lt 4 hxl)).mono ?_
      rintro e w' ⟨rfl, rfl⟩
      go_wp2_with fail
      go_round
      case rel => exact ⟨k + 1, by omega, by go_num, by rw [HS.out]⟩
      case measure => simp [intOf]; omega
    · have hkl : k = l.length := by omega
      subst hkl
      rw [List.take_length]
      rw [List.take_length] at hrk
      have hno2 := flip_u32 _ hrk
      go_wp2_with fail
      go_ret
      exact ⟨rfl, rfl⟩

theorem sum_any (A : Option Addr) (c d : Nat) (l : List UInt8) (w : World) (h : Tab w) (hl : Shows w d (.slice A l.length c) l) (hb : l.length ≤ 140737488355328) :
    Calls Tryz.prog 23 #[.slice A l.length c] w fun e w' => e = .returned (.int .u32 (sum l : Nat)) ∧ w = w' := by
  go_enter Tryz.func23, Tryz.ntmps23
  go_wp2_with fail
  refine (more_any A c 0 d l _ h (by omega) hl hb).mono ?_
  rintro e w' ⟨rfl, rfl⟩
  go_wp2_with fail
  go_ret
  exact ⟨rfl, rfl⟩

theorem T_cases (x : Nat) : T x = if x % 2 = 1 then x / 2 ^^^ 2197175160 else x / 2 := by
  unfold T
  split
  · rfl
  · rw [Nat.xor_zero]
theorem Tn_succ : ∀ n x, Tn (n + 1) x = T (Tn n x)
  | 0, _ => rfl
  | n + 1, x => Tn_succ n (T x)

end Crc
end Go.Proofs.YtdjahdnaihijjaaGreatDoor
