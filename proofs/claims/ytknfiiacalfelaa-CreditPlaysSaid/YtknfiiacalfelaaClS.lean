/-
  Credits that were given are served as often, and no oftener.
  Conditions: none.
-/
import Derived.Test.YtknfiiacalfelaaClF
import Derived.BigQuiet
import Derived.Deep.QuietTactic
namespace Go.Proofs.Ytknfiiacalfelaa
open Go.ChangeShapes Go.WideShapes Go.ChangeAt Go.RowKit Go.Shelf
set_option linter.unusedVariables false
set_option linter.unusedSimpArgs false
set_option maxRecDepth 100000

theorem sum_set {cs : List Nat} : ∀ {i : Nat} (hi : i < cs.length), cs[i] ≠ 0 → (cs.set i (cs[i] - 1)).sum + 1 = cs.sum := by
  induction cs with
  | nil => intro i hi; simp at hi
  | cons c r ih =>
    intro i hi h0
    cases i with
    | zero => simp at h0 ⊢; omega
    | succ i =>
      simp at hi h0
      have := ih hi h0
      simp
      omega
theorem sum_zero {cs : List Nat} (h : cs.sum = 0) : ∀ c ∈ cs, c = 0 := by
  induction cs with
  | nil => simp
  | cons c r ih =>
    simp at h
    intro x hx
    rcases List.mem_cons.1 hx with rfl | hx
    · exact h.1
    · exact ih (by simpa using h.2) x hx
theorem sum_of_zero {cs : List Nat} (h : ∀ c ∈ cs, c = 0) : cs.sum = 0 := by
  induction cs with
  | nil => rfl
  | cons c r ih => simp [h c (by simp)]; exact ih fun x hx => h x (by simp [hx])
theorem sum_take_le (cs : List Nat) (h : ∀ c ∈ cs, c ≤ 9) : ∀ j, (cs.take j).sum ≤ 9 * j := by
  induction cs with
  | nil => intro j; simp
  | cons c r ih =>
    intro j
    cases j with
    | zero => simp
    | succ j =>
      have := ih (fun x hx => h x (by simp [hx])) j
      have := h c (by simp)
      simp
      omega
theorem sum_take_succ {cs : List Nat} {j : Nat} (hj : j < cs.length) : (cs.take (j + 1)).sum = (cs.take j).sum + cs[j] := by
  rw [List.take_succ_eq_append_getElem hj, List.sum_append]
  simp

theorem getD_at {l : List Nat} {i : Nat} (h : i < l.length) : l.getD i 0 = l[i] := by simp [List.getD, h]
/-- Where so many turns of given credits stand. -/
def spSt (cs0 : List Nat) (k : Nat) (cs sv : List Nat) (la : Tg) : Prop :=
  cs.length = cs0.length ∧ sv.length = cs0.length ∧ (∀ i, sv.getD i 0 + cs.getD i 0 = cs0.getD i 0) ∧ cs.sum + k = cs0.sum ∧ spOk cs la ∧ ∀ c ∈ cs, c ≤ 9
theorem spSt_start {cs0 : List Nat} (h : ∀ c ∈ cs0, c ≤ 9) : spSt cs0 0 cs0 (List.replicate cs0.length 0) [] :=
  ⟨rfl, by simp, fun i => by simp [List.getD, List.getElem?_replicate]; split <;> rfl, rfl, .inl rfl, h⟩
theorem sum_pos {cs : List Nat} (h : 0 < cs.sum) : ¬ ∀ c ∈ cs, c = 0 := fun h2 => by have := sum_of_zero h2; omega
theorem spSt_step {cs0 : List Nat} {k : Nat} {cs sv : List Nat} {la : Tg} (hn : cs0.length ≤ 10) (h9 : ∀ c ∈ cs0, c ≤ 9) (h : spSt cs0 k cs sv la) (hk : k < cs0.sum) :
    ∃ i, ∃ _ : i < cs0.length, ∃ hs : i < sv.length, ∃ cs', (⟨spL cs, la⟩ : CP).turn (mayL cs0.length) = ((chT i, true), ⟨spL cs', chT i⟩) ∧ spSt cs0 (k + 1) cs' (sv.set i (sv[i] + 1)) (chT i) ∧ sv[i] ≤ 9 := by
  obtain ⟨h1, h2, h3, h4, h5, h6⟩ := h
  rcases sp_turn (cs := cs) (la := la) (by omega) h5 (fun c hc => by have := h6 c hc; omega) with ⟨ha, _⟩ | ⟨i, hi, hne, ht⟩
  · have := sum_of_zero ha
    omega
  · have hs : i < sv.length := by omega
    have h3i := h3 i
    rw [getD_at hs, getD_at hi] at h3i
    have hsm := sum_set hi hne
    refine ⟨i, by omega, hs, cs.set i (cs[i] - 1), by rw [← h1]; exact ht, ⟨by simp [h1], by simp [h2], fun j => ?_, by omega, .inr ⟨i, by simp; omega, rfl⟩, fun c hc => ?_⟩, ?_⟩
    · have h3j := h3 j
      simp only [List.getD, List.getElem?_set] at h3j ⊢
      by_cases e : i = j
      · subst e
        simp [hs, hi] at h3j ⊢
        omega
      · simp [e] at h3j ⊢
        exact h3j
    · rcases List.mem_or_eq_of_mem_set hc with hc | rfl
      · exact h6 c hc
      · have := h6 _ (List.getElem_mem hi)
        omega
    · have h9i := h9 _ (List.getElem_mem (by omega : i < cs0.length))
      rw [getD_at (by omega : i < cs0.length)] at h3i
      omega
theorem spSt_end {cs0 : List Nat} {cs sv : List Nat} {la : Tg} (hn : cs0.length ≤ 10) (h : spSt cs0 cs0.sum cs sv la) : sv = cs0 ∧ (⟨spL cs, la⟩ : CP).turn (mayL cs0.length) = (([], false), ⟨spL cs, la⟩) := by
  obtain ⟨h1, h2, h3, h4, h5, h6⟩ := h
  have hz := sum_zero (cs := cs) (by omega)
  constructor
  · refine List.ext_getElem h2 fun i hi hi' => ?_
    have h3i := h3 i
    rw [getD_at hi, getD_at hi', getD_at (by omega : i < cs.length), hz _ (List.getElem_mem _)] at h3i
    omega
  · rcases sp_turn (cs := cs) (la := la) (by omega) h5 (fun c hc => by have := h6 c hc; omega) with ⟨_, hb⟩ | ⟨i, hi, hne, ht⟩
    · rw [← h1]; exact hb
    · exact absurd (hz _ (List.getElem_mem hi)) hne
theorem OwnG.cellI {w : World} {base q c : Nat} {A : Option Addr} {l : List Nat} (h : OwnG (natC .i64) 3 w base (.slice A q c) l) (hp : 0 < l.length) : ∃ g, A = some ⟨g, 0, none⟩ ∧ (∀ j, w.frozen? ⟨g, j, none⟩ = false) ∧ ∀ j (hj : j < l.length), w.cell? ⟨g, j, none⟩ = some (.int .i64 (l[j] : Nat)) := by
  obtain ⟨hq, _⟩ := h.len_
  obtain ⟨g, rfl, _, _, hf, hc⟩ := h.at_ (by omega)
  exact ⟨g, rfl, hf, fun j hj => by simpa [natC] using hc j hj 0 (by decide)⟩

theorem OwnG.incI {w : World} {base g n c : Nat} {l : List Nat} (h : OwnG (natC .i64) 3 w base (.slice (some ⟨g, 0, none⟩) n c) l) (i : Nat) (hi : i < l.length) :
    OwnG (natC .i64) 3 (w.setCell ⟨g, i, none⟩ (.int .i64 ((l[i] : Int) + 1))) base (.slice (some ⟨g, 0, none⟩) n c) (l.set i (l[i] + 1)) ∧ w.grownBy (w.setCell ⟨g, i, none⟩ (.int .i64 ((l[i] : Int) + 1))) (some g) := by
  refine ⟨?_, ?_⟩
  · have := OwnG.set_ h i 0 hi (by decide) (l[i] + 1) (.int .i64 ((l[i] : Int) + 1)) rfl
    simpa [natC] using this
  · have h2 := h
    unfold OwnG at h2
    obtain ⟨hn, _⟩ := h.len_
    subst hn
    exact (World.ownsRow.stored h2 i (.int .i64 ((l[i] : Int) + 1))).2
theorem infoInt : (Try.prog.info? 3).map (fun i => (i.zero, i.size, i.bytes)) = some (some (.int .i64 0), 1, 8) := by kernel_rfl
theorem natC_all0 (n : Nat) : (madeCells (Value.int .i64 0).cells (n * 1)).toList = (natC .i64).all (List.replicate n 0) := by
  rw [show (Value.int .i64 0).cells = #[.int .i64 0] from rfl, toList_madeCells_one, Nat.mul_one]
  induction n with
  | zero => rfl
  | succ n ih => rw [List.replicate_succ, List.replicate_succ, Code.all_cons, ← ih]; rfl
theorem wpList_makeI (w : World) {ops : Array Oper} {rest : List Oper} {o : Oper} {a : Act} {Q : Exit → Act → World → Prop}
    (hg : o.guard = none) (l c : Operand) (hop : o.op = Op.makeSlice 49 l c)
    (L : Int) (n : Nat) (hl : a.eval l = .int .i64 L) (hc : a.eval c = .int .i64 L) (hL : L = (n : Int)) (hn : n ≤ 1000000)
    (hK : ∀ w', OwnG (natC .i64) 3 w' w.heap.size (.slice (some ⟨w.heap.size, 0, none⟩) n n) (List.replicate n 0) → w.grownBy w' none → wpList Try.prog ops Q rest (a.put o.dst (.slice (some ⟨w.heap.size, 0, none⟩) n n)) w') :
    wpList Try.prog ops Q (o :: rest) a w := by
  obtain ⟨i, hi0, hz, hs1, hb1⟩ := info_parts infoInt
  refine wpList_make_full w hg l c 49 hop w.heap.size 3 i (.int .i64 0) 1 Try.underlying49 hi0 hz hs1 .i64 .i64 L L n hl hc hL hL (by rw [hb1]; omega) (by simp only [maxLen]; omega) (Nat.le_refl _) fun w' h1 h2 => hK w' ?_ h2
  unfold OwnG
  rw [natC_all0] at h1
  rw [List.length_replicate]
  exact h1
theorem first_byte (i : Nat) (hi : i < 10) (w : World) : (Instr.index 9 (.string (str8 (chT i))) (.int .i64 0)).run Try.prog w = .ok (.int .u8 (97 + (i : Int))) w := by
  have h : i = 0 ∨ i = 1 ∨ i = 2 ∨ i = 3 ∨ i = 4 ∨ i = 5 ∨ i = 6 ∨ i = 7 ∨ i = 8 ∨ i = 9 := by omega
  rcases h with rfl | rfl | rfl | rfl | rfl | rfl | rfl | rfl | rfl | rfl <;> rfl
theorem sp_one (i j : Nat) (hi : i < j) (hj : j ≤ 10) : ∃ z : Int, z = 97 + (i : Int) ∧ ¬ z < 97 ∧ IntKind.u8.wrap (z - 97) = (i : Int) ∧ IntKind.i64.wrap (i : Int) = (i : Int) ∧ wrap64 (i : Int) = (i : Int) ∧ ¬ (j : Int) ≤ (i : Int) ∧ (i : Int) < (j : Int) :=
  ⟨_, rfl, by omega, by rw [IntKind.wrap_u8]; omega, i64_id _ (by omega) (by omega), w64_id _ (by omega) (by omega), by omega, by omega⟩
theorem sp_inc (x : Nat) (h : x ≤ 9) : IntKind.i64.wrap ((x : Int) + 1) = (x : Int) + 1 ∧ wrap64 ((x : Int) + 1) = (x : Int) + 1 := ⟨i64_id _ (by omega) (by omega), w64_id _ (by omega) (by omega)⟩
theorem sp_k (k S : Nat) (h : k < S) (hS : S ≤ 90) : (k : Int) < (S : Int) ∧ IntKind.i64.wrap ((k : Int) + 1) = (k : Int) + 1 ∧ wrap64 ((k : Int) + 1) = (k : Int) + 1 := ⟨by omega, i64_id _ (by omega) (by omega), w64_id _ (by omega) (by omega)⟩
theorem chT_size (i : Nat) : (str8 (chT i)).size = 1 := rfl
theorem sp_nums (S q j : Nat) (h : S ≤ 9 * j) (hj : j < 10) (hq : q ≤ 9) : IntKind.u32.wrap (q : Int) = (q : Int) ∧ IntKind.i64.wrap ((S : Int) + (q : Int)) = (S : Int) + (q : Int) ∧ wrap64 ((S : Int) + (q : Int)) = (S : Int) + (q : Int) ∧ IntKind.i64.wrap ((j : Int) + 1) = (j : Int) + 1 ∧ wrap64 ((j : Int) + 1) = (j : Int) + 1 ∧ (j : Int) + 1 ≤ 10 :=
  ⟨by rw [IntKind.wrap_u32]; omega, i64_id _ (by omega) (by omega), w64_id _ (by omega) (by omega), i64_id _ (by omega) (by omega), w64_id _ (by omega) (by omega), by omega⟩
theorem sp_byte (x q : Nat) (h : q = x % 10) (hx : x < 256) : wrap64 (x : Int) = (x : Int) ∧ (x : Int).tmod 10 = (q : Int) ∧ (x : Int) % 10 = (q : Int) ∧ q ≤ 9 :=
  ⟨w64_id _ (by omega) (by omega), by rw [Int.tmod_eq_emod_of_nonneg (by omega)]; omega, by omega, by omega⟩
theorem sp_cast (S q R : Nat) (h : R = S + q) : (S : Int) + (q : Int) = (R : Nat) := by omega
set_option maxHeartbeats 8000000 in
theorem cspends_walk (A : Option Addr) (c d : Nat) (L : List UInt8) (w : World) (hsh : Shows w d (.slice A L.length c) L) (hL : L.length ≤ 140737488355328) : Calls Try.prog 4 #[.slice A L.length c] w fun e w' => e = .returned (.bool true) ∧ Below w.heap.size w w' := by
  have H0 := Lib.hid (fun w' => UnoC.new w')
  have HH := Lib.hid (fun w' => chead_any w')
  obtain ⟨n, hn⟩ : ∃ n, n = L.length := ⟨_, rfl⟩
  rw [← hn] at hL hsh ⊢
  have HN := Lib.hid hn
  have HSH := Lib.hid hsh
  by_cases h10 : 10 < n
  · have b1 : (10 : Int) < (n : Int) := by omega
    clear hn hsh h10 hL
    go_enter Try.func4, Try.ntmps4
    go_wp2_with (go_at_call 8; refine (HH.out _).mono ?_; rintro e w9 ⟨rfl, hb9⟩)
    go_ret
    exact ⟨rfl, hb9⟩
  have b0 : ¬ (10 : Int) < (n : Int) := by omega
  obtain ⟨cs0, hcs0⟩ : ∃ cs0, cs0 = L.map fun x => x.toNat % 10 := ⟨_, rfl⟩
  have hlen0 : cs0.length = n := by rw [hcs0, hn]; simp
  have h9 : ∀ x ∈ cs0, x ≤ 9 := fun x hx => by rw [hcs0] at hx; obtain ⟨y, _, rfl⟩ := List.mem_map.1 hx; omega
  have hms : ∀ c, ¬ mineP (.cells c 9 (0, 0)) := fun c => not_mineP (by decide) (by decide) (by decide)
  have hmi : ∀ c, ¬ mineP (.cells c 3 (0, 0)) := fun c => not_mineP (by decide) (by decide) (by decide)
  -- what came in, byte by byte, in any later world
  have HIN : Hid (∀ w', Below w.heap.size w w' → ∀ j (hj : j < n), ∃ o, A = some ⟨d, o, none⟩ ∧ ∃ x : Nat, x < 256 ∧ w'.cell? ⟨d, o + j, none⟩ = some (.int .u8 x) ∧ ∀ (h : j < cs0.length), cs0[j] = x % 10) := Lib.hid fun w' hb j hj => by
    have h2 : Shows w' d (.slice A n c) L := hsh.keep hb.size fun hp => hb.block d (hsh.lt hp)
    obtain ⟨o, h3, _, h4⟩ := Shows.at_ h2 (by rw [← hn]; omega)
    refine ⟨o, h3, (L[j]'(by omega)).toNat, UInt8.toNat_lt _, ?_, fun h => by simp [hcs0]⟩
    exact h4 j (by omega)
  have HL0 := Lib.hid hlen0
  have H9 := Lib.hid h9
  clear hn hsh hcs0 hlen0 h9
  go_enter Try.func4, Try.ntmps4
  go_upto_region 5 with (go_at_call 7; refine (H0.out _).mono ?_; rintro e w1 ⟨pb, rfl, h1, hb1⟩)
  have HU1 := Lib.hid h1
  clear h1 hb1
  go_wp2_with fail
  go_loopw [5, 6, 7] (fun v sm i wr => ∃ j S : Nat, j ≤ n ∧ i = .int .i64 j ∧ sm = .int .i64 S ∧ Hid (S = (cs0.take j).sum) ∧ Hid (OwnG strC 9 wr w.heap.size v (mayL j)) ∧ Hid (UnoC w pb ⟨spL (cs0.take j), []⟩ wr)) (fun _ _ i _ => n - (intOf i).toNat)
  case atStart => exact ⟨0, 0, by omega, rfl, rfl, Lib.hid rfl, Lib.hid (OwnG.nil_ _ _ _ _), HU1⟩
  case round =>
    rename World => wr
    obtain ⟨j, S, hj, rfl, rfl, hSS, hrow, hu⟩ := hrel
    by_cases hlt : j < n
    · have hj10 : j < 10 := by omega
      have hjc : j < cs0.length := by rw [HL0.out]; exact hlt
      obtain ⟨o, rfl, x, hx256, hcell, hx⟩ := HIN.out wr hu.out.bel j hlt
      obtain ⟨q, hq⟩ : ∃ q, q = cs0[j] := ⟨_, rfl⟩
      have hq9 : q ≤ 9 := by rw [hq]; exact H9.out _ (List.getElem_mem hjc)
      have b1 : (j : Int) < (n : Int) := by omega
      have HSUM : Hid (S + q = (cs0.take (j + 1)).sum) := Lib.hid (by rw [sum_take_succ hjc, hq, hSS.out])
      have htl : (cs0.take j).length = j := by rw [List.length_take]; omega
      have hts : cs0.take (j + 1) = cs0.take j ++ [q] := by rw [List.take_succ_eq_append_getElem hjc, hq]
      have HA := Lib.hid (hu.out.add (chT j) (by simp [chT]))
      have hadd := sp_add (cs := cs0.take j) (by omega) []
      rw [htl] at hadd
      rw [hadd] at HA
      have HG : Hid (∀ w', UnoC w pb ⟨spL (cs0.take j ++ [0]), []⟩ w' → Calls Try.prog 17 #[.pointer (some ⟨pb, 0, none⟩), .string (str8 (chT j)), .int .u32 q] w' fun e w'' => e = .returned (.int .i64 0) ∧ UnoC w pb ⟨spL (cs0.take (j + 1)), []⟩ w'' ∧ KeptBy mineP w' w'') := Lib.hid fun w' h => by
        have := h.give (chT j) (by simp [chT]) q (by omega)
        have h2 := sp_give (cs := cs0.take j) (by omega) [] q (by omega)
        rw [htl] at h2
        rw [h2, ← hts] at this
        exact this
      have HML := Lib.hid (mayL_snoc j)
      have HLM : Hid ((mayL j).length ≤ 10) := Lib.hid (by unfold mayL; simp; omega)
      have HHS := Lib.hid hts
      have HLM2 : Hid (∀ (M : List Tg) (T : Tg), M.length ≤ 10 → (M.length + [T].length) * 16 ≤ 140737488355328 ∧ M.length + [T].length ≤ 140737488355328) := Lib.hid fun M T h => by simp; omega
      have HM1 : Hid (n - (j + 1) < n - j) := Lib.hid (by omega)
      have HM2 : Hid (j + 1 ≤ n) := Lib.hid (by omega)
      have B1 := Lib.hid (sp_byte x q (by rw [hq, hx hjc]) hx256)
      have B2 := Lib.hid (sp_nums S q j (by rw [hSS.out]; exact sum_take_le cs0 H9.out j) hj10 hq9)
      clear hts hadd htl hx hq hjc hq9
      go_upto_region 12 with fail
      rw [names_slice j hj10]
      rw [B1.out.2.2.1]
      clear hcell hx256 HIN
      obtain ⟨b6, b7, b8, b3, b4, b5⟩ := B2.out
      --mark C
      generalize chT j = T at *
      generalize mayL j = M at *
      go_wp2_with (first
        | (go_at_call 9; refine HA.out.mono ?_; rintro e w3 ⟨rfl, hu3, hk3⟩)
        | (go_at_call 17; refine (HG.out _ hu3).mono ?_; rintro e w4 ⟨rfl, hu4, hk4⟩; have hr4 := OwnG.kb hrow.out (hk3.trans hk4) hms; have hr5 := hr4.alloc_ (.cells #[.string (str8 T)] 9); have hu5 := hu4.step ((Below.refl w4.heap.size w4).alloc (Nat.le_refl _) (.cells #[.string (str8 T)] 9)); have hm5 : ShowsG strC (w4.alloc (.cells #[.string (str8 T)] 9)) w4.heap.size (.slice (some ⟨w4.heap.size, 0, none⟩) 1 1) [T] := ShowsG.lit (C := strC) [T] (by simp [Code.all, strC]) (by simp [maxLen]); have hz5 := hu5.bel.size)
        | (at_builtin; refine wpList_appendG strC _ rfl (.tmp 51) (.tmp 53) 30 rfl w.heap.size 9 _ 16 Try.underlying30 infoStr rfl _ M rfl hr5 w4.heap.size _ [T] rfl hm5 (HLM2.out _ _ HLM.out).1 (HLM2.out _ _ HLM.out).2 hz5 ?_; intro v6 w6 ho6 hg6; have hu6 := hu5.grown hr5 hms hg6))
      go_roundw
      case rel => exact ⟨j + 1, S + q, HM2.out, by go_num, by first | rfl | (go_num), HSUM, Lib.hid (HML.out ▸ ho6), Lib.hid hu6⟩
      case measure => have := HM1.out; simp [intOf]; clear b6 b7 b8 b3 b4; omega
    · obtain rfl : j = n := by omega
      have hml : (mayL j).length = j := by simp [mayL]
      have htk : cs0.take j = cs0 := List.take_of_length_le (by rw [HL0.out]; exact Nat.le_refl _)
      have hS : S = cs0.sum := by rw [hSS.out, htk]
      have hS90 : S ≤ 90 := by have := sum_take_le cs0 H9.out j; rw [htk, ← hS] at this; omega
      have HU0 : Hid (UnoC w pb ⟨spL cs0, []⟩ wr) := Lib.hid (by have := hu.out; rw [htk] at this; exact this)
      obtain ⟨Am, cm, rfl, _, _⟩ := hrow.out.form
      rw [hml] at hrow ⊢
      have HTL : Hid (∀ t ∈ mayL j, t.length ≤ 140737488355328) := Lib.hid fun t ht => by
        obtain ⟨i, _, rfl⟩ := List.mem_map.1 ht
        simp [chT]
      have HST := Lib.hid (spSt_start H9.out)
      rw [HL0.out] at HST
      obtain ⟨B2, hB2⟩ : ∃ B2, B2 = wr.heap.size := ⟨_, rfl⟩
      have HB2 : Hid (w.heap.size ≤ B2) := Lib.hid (by rw [hB2]; exact hu.out.bel.size)
      have HMB : Hid (∀ g, (Value.slice Am j cm).ownBlock = some g → g < B2) := Lib.hid fun g hg => by rw [hB2]; exact (hrow.out.block g hg).2
      have hj10 : j ≤ 10 := by omega
      have HS90 := Lib.hid hS90
      have HSE := Lib.hid hS
      have HJ := Lib.hid hj10
      clear hS hS90 htk hSS hu hlt hj HU1 b0 h10 hL
      go_upto_region 17 with (refine wpList_makeI _ rfl (.tmp 59) (.tmp 59) rfl (j : Int) j rfl rfl rfl (by have := HJ.out; omega) ?_; intro w6 ho6 hg6)
      have hb6 : Below wr.heap.size wr w6 := (Below.refl _ _).grown hg6 (Nat.le_refl _) (by simp)
      have HU6 := Lib.hid (HU0.out.step hb6)
      have HM6 : Hid (OwnG strC 9 w6 w.heap.size (.slice Am j cm) (mayL j)) := Lib.hid (hrow.out.keep fun g hg => hb6.block g (hrow.out.block g hg).2)
      rw [← hB2] at ho6 ⊢
      have HS6 := Lib.hid ho6
      clear ho6 hg6 hb6 hB2 hrow HU0
      go_wp2_with fail
      go_loopw [11] (fun i wq => ∃ (k : Nat) (cs sv : List Nat) (la : Tg), k ≤ S ∧ i = .int .i64 k ∧ Hid (spSt cs0 k cs sv la) ∧ Hid (OwnG strC 9 wq w.heap.size (.slice Am j cm) (mayL j)) ∧ Hid (OwnG (natC .i64) 3 wq B2 (.slice (some ⟨B2, 0, none⟩) j j) sv) ∧ Hid (UnoC w pb ⟨spL cs, la⟩ wq)) (fun i _ => S - (intOf i).toNat)
      case atStart => exact ⟨0, cs0, _, [], by omega, rfl, HST, HM6, HS6, HU6⟩
      case round =>
        clear HU6 HM6 HS6 HST
        rename World => wq
        obtain ⟨k, cs, sv, la, hk, rfl, hst, hmay, hsv, huk⟩ := hrel
        obtain ⟨dm, _, hsh⟩ := hmay.out.shows
        have HT := Lib.hid (huk.out.turn Am j cm dm (mayL j) hml.symm hsh HTL.out (by rw [hml]; omega))
        by_cases hkt : k < S
        · obtain ⟨i, hi, hs, cs', ht, hst', hv9⟩ := spSt_step (by rw [HL0.out]; exact HJ.out) H9.out hst.out (by rw [← HSE.out]; exact hkt)
          rw [HL0.out] at ht hi
          rw [ht] at HT
          obtain ⟨b1, b2, b3⟩ := sp_k k S hkt HS90.out
          obtain ⟨z, hz, z1, z2, z3, z4, z5, z6⟩ := sp_one i j hi hj10
          have i0 := first_byte i (Nat.lt_of_lt_of_le hi hj10)
          rw [← hz] at i0
          have i1 := chT_size i
          have z7 : ¬ j ≤ i := Nat.not_le_of_lt hi
          have z8 : 97 ≤ z := Int.not_lt.1 z1
          have z9 : (97 ≤ z ∧ ¬ j ≤ i) := ⟨z8, z7⟩
          obtain ⟨y, hy⟩ : ∃ y, y = sv[i] := ⟨_, rfl⟩
          rw [← hy] at hst' hv9
          obtain ⟨b4, b5⟩ := sp_inc y hv9
          have HST' := Lib.hid hst'
          have HM1 : Hid (S - (k + 1) < S - k ∧ k + 1 ≤ S) := Lib.hid ⟨Nat.sub_lt_sub_left hkt (Nat.lt_succ_self k), hkt⟩
          have HHS := Lib.hid hs
          have HY := Lib.hid hy
          generalize chT i = T at *
          clear hsh ht hst' hz hk hkt hv9 hy
          go_upto_region 21 with (go_at_call 15; refine HT.out.mono ?_; rintro e w3 ⟨rfl, hu3, hk3⟩)
          have hs3 := OwnG.kb hsv.out hk3 hmi
          have hm3 := OwnG.kb hmay.out hk3 hms
          obtain ⟨g, hge, hf3, hc3⟩ := hs3.cellI (Nat.lt_of_le_of_lt (Nat.zero_le _) HHS.out)
          obtain rfl : g = B2 := by injection hge with h; injection h with h; exact h.symm
          have hfr := hf3 i
          have hcell := hc3 i HHS.out
          rw [← HY.out] at hcell
          have hinc := OwnG.incI hs3 i HHS.out
          rw [← HY.out] at hinc
          have HEND : Hid (Hid (OwnG strC 9 (w3.setCell ⟨g, i, none⟩ (.int .i64 ((y : Int) + 1))) w.heap.size (.slice Am j cm) (mayL j)) ∧ Hid (OwnG (natC .i64) 3 (w3.setCell ⟨g, i, none⟩ (.int .i64 ((y : Int) + 1))) g (.slice (some ⟨g, 0, none⟩) j j) (sv.set i (y + 1))) ∧ Hid (UnoC w pb ⟨spL cs', T⟩ (w3.setCell ⟨g, i, none⟩ (.int .i64 ((y : Int) + 1))))) := Lib.hid ⟨Lib.hid (hm3.keep fun g' hg' => hinc.2.block g' (hm3.block g' hg').2 (fun e => by injection e with e; have := HMB.out g' hg'; omega)), Lib.hid hinc.1, Lib.hid (hu3.grown (hs3.mono HB2.out) hmi hinc.2)⟩
          clear hs3 hm3 hf3 hc3 hinc hu3 hk3 hge
          go_wp2_with fail
          go_roundw
          case rel => exact ⟨k + 1, cs', _, T, HM1.out.2, by go_num, HST', HEND.out.1, HEND.out.2.1, HEND.out.2.2⟩
          case measure => have := HM1.out; simp [intOf]; clear b2 b3 b4 b5 z2 z3 z4; omega
        · obtain rfl : k = S := by omega
          obtain ⟨hsve, ht⟩ := spSt_end (by rw [HL0.out]; exact HJ.out) (by rw [← HSE.out]; exact hst.out)
          rw [HL0.out] at ht
          have HTE : Hid (∀ n, Calls Try.prog 15 #[.pointer (some ⟨pb, 0, none⟩), .slice Am j cm] (wq.drewN n) fun e w' => e = .returned (.tuple #[.string (str8 []), .bool false]) ∧ UnoC w pb ⟨spL cs, la⟩ w') := Lib.hid fun n => by
            have hu : UnoC w pb ⟨spL cs, la⟩ (wq.drewN n) := huk.out.step (below_drewN (Below.refl _ _) n)
            have := hu.turn Am j cm dm (mayL j) hml.symm (hsh.drewN n) HTL.out (by rw [hml]; omega)
            rw [ht] at this
            exact this.mono fun e w' h => ⟨h.1, h.2.1⟩
          have HC : Hid (∀ r, r < j → ∃ o, A = some ⟨d, o, none⟩ ∧ ∃ x : Nat, (∀ n, (wq.drewN n).cell? ⟨d, o + r, none⟩ = some (.int .u8 x)) ∧ (∀ n, (wq.drewN n).cell? ⟨B2, r, none⟩ = some (.int .i64 ((x % 10 : Nat) : Int))) ∧ x < 256) := Lib.hid fun r hr => by
            obtain ⟨o, h1, x, h2, h3, h4⟩ := HIN.out wq huk.out.bel r hr
            have hl : r < sv.length := by rw [hsve, HL0.out]; exact hr
            obtain ⟨g, hge, _, hc3⟩ := hsv.out.cellI (by omega)
            obtain rfl : g = B2 := by injection hge with h; injection h with h; exact h.symm
            have h5 := hc3 r hl
            refine ⟨o, h1, x, fun n => h3, fun n => ?_, h2⟩
            rw [← h4 (by rw [HL0.out]; exact hr)]
            subst hsve
            exact h5
          have HK := Lib.hid hk
          clear HT hsh ht hsve hkt hk hst HIN
          go_wp2_with fail
          go_loopw [14] (fun iv wz => ∃ r n : Nat, r ≤ j ∧ iv = .int .i64 r ∧ wz = wq.drewN n) (fun iv _ => j - (intOf iv).toNat)
          case atStart => exact ⟨0, 0, Nat.zero_le _, rfl, rfl⟩
          case round =>
            obtain ⟨r, n, hr, rfl, rfl⟩ := hrel
            by_cases hrj : r < j
            · obtain ⟨o, rfl, x, hx, hy, hx256⟩ := HC.out r hrj
              have hx := hx n
              have hy := hy n
              have c1 : (r : Int) < (j : Int) := by omega
              obtain ⟨c2, c3⟩ := sp_inc r (by omega)
              have HM1 : Hid (j - (r + 1) < j - r ∧ r + 1 ≤ j) := Lib.hid (by omega)
              clear hr HC
              go_upto_region 27 with fail
              --mark F
              go_quiet (fail)
              --mark G
              go_wp2_with fail
              go_roundw
              case rel => exact ⟨r + 1, _, HM1.out.2, by go_num, rfl⟩
              case measure => have := HM1.out; simp [intOf]; clear c2 c3; omega
            · obtain rfl : r = j := by omega
              clear HC
              go_wp2_with (first
                | (go_at_call 15; refine (HTE.out n).mono ?_; rintro e w8 ⟨rfl, hu8⟩)
                | (go_at_call 8; refine (HH.out _).mono ?_; rintro e w9 ⟨rfl, hb9⟩))
              go_ret
              exact ⟨rfl, hu8.bel.trans (hb9.mono hu8.bel.size)⟩

set_option maxRecDepth 100000 in
set_option maxHeartbeats 1000000 in
theorem cspends_walk_lifted (os : Os) (started : os.Started) (H : Type) (enc : TypeId × Value → H) :
    ReturnsInHanded {} Try.checked os 4 .any (Rows.creditSpendsSpec.pre6 enc Try.prog Try.f4 Rows.creditSpendsRow.domain false) (Rows.creditSpendsSpec.post enc Try.prog Try.f4 false true false false) := by
  refine returnsInHanded_of_change_sized (C := Try.checked) own started (by kernel_rfl) Try.func4
    (ChangeSpec.witness6 (enc := enc) (C := Try.checked) false ⟨#[], #[.slice none 0 0], []⟩ 8 (by kernel_rfl) (by kernel_rfl) (by kernel_rfl) (by kernel_rfl)) ?_
  intro W base args ds gs before hval0 hW hcnd hsz0 _
  have hval : ∀ (j : Nat) t v, Try.f4.params[j]? = some t → args[j]? = some v → Value.okWide Try.prog W .any base t v := hval0
  have hsz : (DataW.weightsEach Try.prog (Try.f4.params.toList ++ Rows.creditSpendsSpec.plain.varTypes Try.prog) (ds ++ gs)).all (· ≤ reachBytes) = true := hsz0
  have hW' := hW
  obtain ⟨p, q, hA0, hV, rfl, hfz, hnd⟩ := hW
  have hA : DataW.TrodAll enc Try.prog W 0 (fun _ => true) true Try.f4.params.toList args.toList ds p := hA0
  rw [Try.params4] at hA hval hsz
  obtain ⟨v0, vs0, d0, ds0, p0, q0, hargs, rfl, rfl, h0, r0⟩ := trodAll_cons hA
  obtain ⟨rfl, rfl, rfl⟩ := trodAll_nil r0
  obtain rfl : args = #[v0] := by cases args; simp_all
  obtain ⟨rfl, rfl⟩ := trodVars_none hV
  have k0 := h0
  have lt0 : ∀ x ∈ p0, x.block < W.heap.size := by obtain ⟨m, hm⟩ := k0; exact DataW.trod_lt m _ _ _ hm
  obtain ⟨A0, c0, b0, L0, rfl, sh0, l0⟩ := open_bytes Try.underlying48 Try.underlying5 (by kernel_rfl) bytes5 (hval 0 48 v0 rfl rfl) h0 hsz 0 rfl rfl
  clear hA0 hval0
  refine (cspends_walk A0 c0 b0 L0 W sh0 (by omega)).mono fun e W' ⟨he, bel⟩ => ?_
  subst he
  exact ⟨_, rfl, _, _, _, [], _, [], hW', trodAll_mk1 (shut_bool Try.underlying4 _), (trodAll_cons_mk (Below.trod laidOut (by kernel_rfl) (of_decide_eq_true (by kernel_rfl)) k0 bel lt0) trodAll_mk0), rfl, bel.frame _, fun h => by cases h⟩

theorem creditSpends_holds : Rows.CreditSpendsSaid :=
  OpenClaim.holds_of_wide 4 Try.f4 rfl rfl rfl rfl rfl rfl rfl ⟨rfl, rfl, rfl, rfl, rfl⟩ rfl rfl rfl rfl rfl (by kernel_rfl) Try.func4 (by kernel_rfl)
    (of_decide_eq_true (by kernel_rfl)) (by unfold Func.isWrapper; first | (rw [if_pos (by decide +kernel)]; kernel_rfl) | (rw [if_neg (by decide +kernel)]; exact ⟨rfl, rfl⟩))
    (fun os started H enc _ => cspends_walk_lifted os started H enc)
#print axioms creditSpends_holds
end Go.Proofs.Ytknfiiacalfelaa
