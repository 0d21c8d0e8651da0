/-
  OctetPuts: for every input the law returns true, and its arguments read as before.
  Conditions: none.
-/
import Derived.Test.YtfdbfiaijaeklaaBig
import Derived.Test.YtfdbfiaijaeklaaBad
import Derived.Lib.SmallJoins
namespace Go.Proofs.Ytfdbfiaijaeklaa
open Go.ChangeShapes Go.WideShapes Go.ChangeAt Go.RowKit
set_option linter.unusedVariables false
set_option linter.unusedSimpArgs false

/-- What PutText does: the bytes, the error. -/
def ptS (q : Int) (l : List UInt8) (s : ByteArray) : List UInt8 × Int :=
  if txt q = true then (if s.size < 256 ^ (wd q) then (l ++ (be (wd q) s.size ++ sb s), 0) else ([], 3)) else ([], 2)

theorem txt_or {q : Int} (h : txt q = true) : q = 1 ∨ q = 2 ∨ q = 4 := by simpa [txt] using h

theorem putText_any (v : Value) (l : List UInt8) (d : Nat) (s : ByteArray) (q : Int) (w : World) (hv : Shows w d v l) (hl : l.length ≤ 140737488351232) (hs : s.size ≤ 140737488355328) :
    Calls Try.prog 9 #[v, .string s, .int .i64 q] w fun e w' => ∃ v', e = .returned (.tuple #[v', .int .i64 (ptS q l s).2]) ∧ Own 5 w' w.heap.size v' (ptS q l s).1 ∧ Below w.heap.size w w' := by
  unfold ptS
  by_cases hq : txt q = true
  · rw [if_pos hq]
    by_cases h : s.size < 256 ^ (wd q)
    · rw [if_pos h]
      rcases txt_or hq with rfl | rfl | rfl
      · exact putText_big1 v l d s w hv hl h
      · exact putText_big2 v l d s w hv hl h
      · exact putText_big4 v l d s w hv hl h
    · rw [if_neg h]
      have h : 256 ^ (wd q) ≤ s.size := by omega
      rcases txt_or hq with rfl | rfl | rfl
      · exact (putText_long1 v s w hs h).mono fun e w' ⟨h1, h2⟩ => by subst h2; exact ⟨_, h1, Own.nil_ _ _ _, Below.refl _ _⟩
      · exact (putText_long2 v s w hs h).mono fun e w' ⟨h1, h2⟩ => by subst h2; exact ⟨_, h1, Own.nil_ _ _ _, Below.refl _ _⟩
      · exact (putText_long4 v s w hs h).mono fun e w' ⟨h1, h2⟩ => by subst h2; exact ⟨_, h1, Own.nil_ _ _ _, Below.refl _ _⟩
  · rw [if_neg hq]
    exact (putText_arg v s q w (by simpa using hq)).mono fun e w' ⟨h1, h2⟩ => by subst h2; exact ⟨_, h1, Own.nil_ _ _ _, Below.refl _ _⟩

theorem qputText_any (v : Value) (l : List UInt8) (d : Nat) (s : ByteArray) (q : Int) (w : World) (hv : Shows w d v l) (hl : l.length ≤ 140737488351232) (hs : s.size ≤ 140737488355328) :
    Calls Try.prog 10 #[v, .string s, .int .i64 q] w fun e w' => ∃ v', e = .returned (.tuple #[v', .int .i64 (ptS q l s).2]) ∧ Own 5 w' w.heap.size v' (ptS q l s).1 ∧ Below w.heap.size w w' := by
  unfold ptS
  by_cases hq : txt q = true
  · rw [if_pos hq]
    by_cases h : s.size < 256 ^ (wd q)
    · rw [if_pos h]
      rcases txt_or hq with rfl | rfl | rfl
      · exact qputText_ok1 v l d s w hv hl h
      · exact qputText_ok2 v l d s w hv hl h
      · exact qputText_ok4 v l d s w hv hl h
    · rw [if_neg h]
      have h : 256 ^ (wd q) ≤ s.size := by omega
      rcases txt_or hq with rfl | rfl | rfl
      · exact (qputText_long1 v s w hs h).mono fun e w' ⟨h1, h2⟩ => by subst h2; exact ⟨_, h1, Own.nil_ _ _ _, Below.refl _ _⟩
      · exact (qputText_long2 v s w hs h).mono fun e w' ⟨h1, h2⟩ => by subst h2; exact ⟨_, h1, Own.nil_ _ _ _, Below.refl _ _⟩
      · exact (qputText_long4 v s w hs h).mono fun e w' ⟨h1, h2⟩ => by subst h2; exact ⟨_, h1, Own.nil_ _ _ _, Below.refl _ _⟩
  · rw [if_neg hq]
    exact (qputText_arg v s q w (by simpa using hq)).mono fun e w' ⟨h1, h2⟩ => by subst h2; exact ⟨_, h1, Own.nil_ _ _ _, Below.refl _ _⟩

theorem Own.at_' {w : World} {base n c : Nat} {A : Option Addr} {m : List UInt8} {e : TypeId} (h : Own e w base (.slice A n c) m) (hp : 0 < n) :
    ∃ b, A = some ⟨b, 0, none⟩ ∧ base ≤ b ∧ b < w.heap.size ∧ (∀ j, w.frozen? ⟨b, j, none⟩ = false) ∧ ∀ j (hj : j < m.length), w.cell? ⟨b, j, none⟩ = some (u8c m[j]) := by
  rcases h.2 with ⟨h1, h2⟩ | ⟨b, cap, cur, h1, hb, hg, _⟩
  · cases h1; omega
  · cases h1
    refine ⟨b, rfl, hb, (Array.getElem?_eq_some_iff.1 hg).1, fun j => frozen_of_row w b j cur e hg, fun j hj => ?_⟩
    rw [World.ownsRow.cellAt h j (by omega)]
    simp [bs, hj]
theorem Own.set_' {w : World} {base b n c : Nat} {m : List UInt8} {e : TypeId} (h : Own e w base (.slice (some ⟨b, 0, none⟩) n c) m) (hn : m.length = n) (j : Nat) (y : UInt8) (u : Value) (hu : u = u8c y) :
    Own e (w.setCell ⟨b, j, none⟩ u) base (.slice (some ⟨b, 0, none⟩) n c) (m.set j y) := by
  subst hu
  subst hn
  have := (World.ownsRow.stored h j (u8c y)).1
  unfold Own
  rw [List.length_set]
  have e : bs (m.set j y) = (bs m).set j (u8c y) := by simp [bs, List.map_set]
  rw [e]
  exact this

set_option maxRecDepth 100000 in
set_option maxHeartbeats 1000000 in
theorem puts_walk (A0 : Option Addr) (c0 : Nat) (B : List UInt8) (d0 n : Nat) (q : Int) (s : ByteArray) (w : World)
    (h0 : Shows w d0 (.slice A0 B.length c0) B) (hb : B.length ≤ 140737488351232) (hn : n < 18446744073709551616) (hs : s.size ≤ 140737488355328) :
    Calls Try.prog 3 #[.slice A0 B.length c0, .int .u64 n, .agg #[.int .i64 q, .string s]] w fun e w' => e = .returned (.bool true) ∧ Below w.heap.size w w' := by
  have hB1 : Below w.heap.size w (w.alloc (.cells #[.int .i64 q, .string s] 25)) := (Below.refl _ _).alloc (Nat.le_refl _) _
  have hX := heap_alloc_new w (.cells #[.int .i64 q, .string s] 25)
  have k0 : (w.alloc (.cells #[.int .i64 q, .string s] 25)).cell? ⟨w.heap.size, 0, none⟩ = some (.int .i64 q) := by rw [cell_of_row _ _ _ _ 25 (0, 0) hX]; rfl
  have k1 : (w.alloc (.cells #[.int .i64 q, .string s] 25)).cell? ⟨w.heap.size, 1, none⟩ = some (.string s) := by rw [cell_of_row _ _ _ _ 25 (0, 0) hX]; rfl
  have h01 : Shows (w.alloc (.cells #[.int .i64 q, .string s] 25)) d0 (.slice A0 B.length c0) B := h0.keep hB1.size fun hp => hB1.block _ (h0.lt hp)
  have hlt0 := h0.lt
  clear hX h0
  go_enter Try.func3, Try.ntmps3
  go_wp2_with fail
  generalize hw1 : w.alloc (.cells #[.int .i64 q, .string s] 25) = w1 at *
  have HW1 := Lib.hid hw1
  clear hw1
  go_quiet (fail)
  have hB2 : Below w.heap.size w (w1.drewN nq) := below_drewN hB1 nq
  have h02 : Shows (w1.drewN nq) d0 (.slice A0 B.length c0) B := h01
  clear hB1 h01 k0 k1
  generalize w1.drewN nq = w2 at *
  have hz2 := hB2.size
  go_wp2_with (at_builtin
               refine wpList_append8 _ rfl (.const (.slice none 0 0)) (.tmp 20) 22 rfl w2.heap.size 5 Try.underlying22 info5 (.slice none 0 0) [] rfl (Own.nil_ _ _ _) d0 _ B rfl h02 (by simp; omega) (Nat.le_refl _) ?_
               intro v3 w3 ho3 hg3
               rw [List.nil_append] at ho3
               have hb3 : Below w2.heap.size w2 w3 := (Below.refl _ _).grown hg3 (Nat.le_refl _) (by simp [Value.ownBlock]))
  have hz3 := hb3.size
  obtain ⟨b3, hl3, hl3', hs3⟩ := ho3.shows' hz3
  refine (put_any v3 B b3 n q _ hs3 (by omega)).mono ?_
  rintro e w4 ⟨v4, rfl, ho4, hb4⟩
  have hz4 := hb4.size
  have hs34 : Shows w4 b3 v3 B := hs3.keep hz4 fun hp => hb4.block _ (hs3.lt hp)
  go_wp2_with fail
  refine (putText_any v3 B b3 s q _ hs34 hb hs).mono ?_
  rintro e w5 ⟨v5, rfl, ho5, hb5⟩
  have hz5 := hb5.size
  go_wp2_with fail
  have hC5 : Below w2.heap.size w2 w5 := hb3.trans ((hb4.trans (hb5.mono hz4)).mono hz3)
  have h05 : Shows w5 d0 (.slice A0 B.length c0) B := h02.keep hC5.size fun hp => hC5.block _ (h02.lt hp)
  refine (qputText_any _ B d0 s q _ h05 hb hs).mono ?_
  rintro e w6 ⟨v6, rfl, ho6, hb6⟩
  have hz6 := hb6.size
  go_wp2_with fail
  have hC6 : Below w2.heap.size w2 w6 := hC5.trans (hb6.mono hC5.size)
  have h06 : Shows w6 d0 (.slice A0 B.length c0) B := h02.keep hC6.size fun hp => hC6.block _ (h02.lt hp)
  refine (qput_any _ B d0 n q _ h06 (by omega) hn).mono ?_
  rintro e w7 ⟨v7, rfl, ho7, hb7⟩
  have hz7 := hb7.size
  have hC7 : Below w2.heap.size w2 w7 := hC6.trans (hb7.mono hC6.size)
  -- what the values show here
  have hD7 : Below w4.heap.size w4 w7 := hb5.trans ((hb6.trans (hb7.mono hz6)).mono hz5)
  have hE7 : Below w5.heap.size w5 w7 := hb6.trans (hb7.mono hz6)
  have ho4' : Own 5 w7 w3.heap.size v4 (B ++ be (wd q) n) := ho4.keep fun k hk => hD7.block _ (ho4.block k hk).2
  have ho5' : Own 5 w7 w4.heap.size v5 (ptS q B s).1 := ho5.keep fun k hk => hE7.block _ (ho5.block k hk).2
  have ho6' : Own 5 w7 w5.heap.size v6 (ptS q B s).1 := ho6.keep fun k hk => hb7.block _ (ho6.block k hk).2
  have ho3' : Own 5 w7 w2.heap.size v3 B := ho3.keep fun k hk => (hD7.block _ (by have := (ho3.block k hk).2; omega)).trans (hb4.block _ (ho3.block k hk).2)
  have hv3 : ∀ k, v3.ownBlock = some k → k < w3.heap.size := fun k hk => (ho3.block k hk).2
  have h07 : Shows w7 d0 (.slice A0 B.length c0) B := h02.keep hC7.size fun hp => hC7.block _ (h02.lt hp)
  have hd0 := h02.lt
  have hF7 : Below w.heap.size w w7 := hB2.trans (hC7.mono hz2)
  have HD0 := Lib.hid hd0
  have HV3 := Lib.hid hv3
  have hXl : (B ++ be (wd q) n).length ≤ 140737488355328 := by have := be_wd_length q n; rw [List.length_append]; omega
  clear ho3 ho4 ho5 ho6 hs3 hs34 h02 h05 h06 hd0 hv3
  generalize B ++ be (wd q) n = X at *
  obtain ⟨g4, _, hs4⟩ := ho4'.shows
  obtain ⟨g5, _, hs5⟩ := ho5'.shows
  obtain ⟨g6, _, hs6⟩ := ho6'.shows
  obtain ⟨g7, _, hs7⟩ := ho7.shows
  obtain ⟨A4, c4, rfl, _⟩ := ho4'.form
  go_wp2_with fail
  refine (same_yes _ v7 _ g4 g7 _ hs4 hs7).mono ?_
  rintro e w' ⟨rfl, rfl⟩
  go_wp2_with fail
  refine (same_yes v5 v6 _ g5 g6 _ hs5 hs6).mono ?_
  rintro e w' ⟨rfl, rfl⟩
  go_wp2_with fail
  go_loopw [15] (fun i wr => ∃ (k : Nat) (m : List UInt8), k ≤ X.length ∧ i = .int .i64 k ∧ m.length = X.length ∧ Own 5 wr w3.heap.size (.slice A4 X.length c4) m ∧ Own 5 wr w2.heap.size v3 B ∧ Shows wr d0 (.slice A0 B.length c0) B ∧ Below w.heap.size w wr) (fun i _ => X.length - (intOf i).toNat)
  case atStart => exact ⟨0, X, Nat.zero_le _, rfl, rfl, ho4', ho3', h07, hF7⟩
  case round =>
    obtain ⟨k, m, hk, rfl, hml, hom, hov, hsh, hbr⟩ := hrel
    by_cases hlt : k < X.length
    · obtain ⟨b, rfl, hbb, hbl, hfz, hcl⟩ := hom.at_' (by omega)
      have hcc : wr.cell? ⟨b, k, none⟩ = some (.int .u8 (m[k]'(by omega)).toNat) := hcl k (by omega)
      have hlo : ((m[k]'(by omega)).toNat : Int) < 256 := by have := (m[k]'(by omega : k < m.length)).toNat_lt; omega
      have hy : u8c (UInt8.ofNat ((m[k]'(by omega)).toNat + 1)) = .int .u8 ((((m[k]'(by omega)).toNat : Int) + 1) % 256) := by simp [u8c]
      have HY := Lib.hid hy
      generalize (m[k]'(by omega)).toNat = x at *
      clear hcl hy
      go_wp2_with fail
      go_roundw
      case rel =>
        have f : ∀ q, q ≠ b → (wr.setCell ⟨b, k, none⟩ (.int .u8 (((x : Int) + 1) % 256))).heap[q]? = wr.heap[q]? := fun q hq => heap_setCell_other _ _ _ _ hq
        refine ⟨k + 1, m.set k (UInt8.ofNat (x + 1)), by omega, by go_num, by rw [List.length_set]; exact hml, hom.set_' hml k _ _ HY.out.symm, ?_, ?_, hbr.setCell (by show w.heap.size ≤ b; omega) _⟩
        · exact hov.keep fun k2 hk2 => f _ (by have := HV3.out k2 hk2; omega)
        · exact hsh.keep (by simp [World.setCell]) fun hp => f _ (by have := HD0.out hp; omega)
      case measure => simp [intOf]; omega
    · obtain ⟨g3, _, hs3⟩ := hov.shows
      go_wp2_with fail
      refine (same_yes v3 _ B g3 d0 _ hs3 hsh).mono ?_
      rintro e w' ⟨rfl, rfl⟩
      go_wp2_with (go_at_call 13; refine (head_any _).mono ?_; rintro e w9 ⟨rfl, hb9⟩)
      go_ret
      exact ⟨rfl, hbr.trans (hb9.mono hbr.size)⟩

theorem u64_range {b : Int} (h : (Lit.int .u64 b).wf = true) : 0 ≤ b ∧ b < 18446744073709551616 := by
  simp only [Lit.wf, IntKind.min, IntKind.max, IntKind.signed, IntKind.bits, Bool.and_eq_true, decide_eq_true_eq] at h
  simp at h
  omega

theorem strs_ok {H : Type} {ts : List TypeId} {ds : List (DataW H)} {P : Program} {t e0 e1 : TypeId} {f0 f1 : Field} {j : Nat} {x : DataW H} {s : ByteArray} (h : (DataW.weightsEach P ts ds).all (· ≤ reachBytes) = true) (ht : ts[j]? = some t) (hd : ds[j]? = some (.agg [x, .lit (.string s.data.toList)])) (hs : P.underlying t = some (.struct #[f0, f1])) : s.size ≤ 140737488351232 := by
  have := List.all_eq_true.1 h _ (DataW.weights_mem_each ht hd s.data.toList.length (by simp [DataW.weights, hs, DataW.weightsEach]))
  have h2 : reachBytes = 140737488351232 := by decide
  have h3 := sb_length s
  unfold sb at h3
  simp only [decide_eq_true_eq] at this
  omega

set_option maxRecDepth 100000 in
theorem puts_lifted (os : Os) (started : os.Started) (H : Type) (enc : TypeId × Value → H) :
    ReturnsInHanded {} Try.checked os 3 .any (Rows.octetPutsSpec.pre6 enc Try.prog Try.f3 Rows.octetPutsRow.domain false) (Rows.octetPutsSpec.post enc Try.prog Try.f3 false true false false) := by
  refine returnsInHanded_of_change_sized (C := Try.checked) own started (by kernel_rfl) Try.func3
    (ChangeSpec.witness6 (enc := enc) (C := Try.checked) false ⟨#[], #[.slice none 0 0, .int .u64 0, .agg #[.int .i64 0, .string ⟨#[]⟩]], []⟩ 8 (by kernel_rfl) (by kernel_rfl) (by kernel_rfl) (by kernel_rfl)) ?_
  intro W base args ds gs before hval0 hW hcnd hsz0 _
  have hval : ∀ (j : Nat) t v, Try.f3.params[j]? = some t → args[j]? = some v → Value.okWide Try.prog W .any base t v := hval0
  have hsz : (DataW.weightsEach Try.prog (Try.f3.params.toList ++ Rows.octetPutsSpec.plain.varTypes Try.prog) (ds ++ gs)).all (· ≤ reachBytes) = true := hsz0
  have hW' := hW
  obtain ⟨p, q, hA0, hV, rfl, hfz, hnd⟩ := hW
  have hA : DataW.TrodAll enc Try.prog W 0 (fun _ => true) true Try.f3.params.toList args.toList ds p := hA0
  rw [Try.params3] at hA hval hsz
  obtain ⟨v0, vs0, d0, ds0, p0, q0, hargs, rfl, rfl, h0, r0⟩ := trodAll_cons hA
  obtain ⟨v1, vs1, d1, ds1, p1, q1, rfl, rfl, rfl, h1, r1⟩ := trodAll_cons r0
  obtain ⟨v2, vs2, d2, ds2, p2, q2, rfl, rfl, rfl, h2, r2⟩ := trodAll_cons r1
  obtain ⟨rfl, rfl, rfl⟩ := trodAll_nil r2
  obtain rfl : args = #[v0, v1, v2] := by cases args; simp_all
  obtain ⟨rfl, rfl⟩ := trodVars_none hV
  obtain ⟨A0, c0, b0, B, rfl, s0, l0⟩ := open_bytes Try.underlying22 Try.underlying5 (by kernel_rfl) bytes5 (hval 0 22 v0 rfl rfl) h0 hsz 0 rfl rfl
  obtain ⟨a1, rfl, rfl, rfl, w1⟩ := open_int Try.underlying23 (hval 1 23 v1 rfl rfl) h1
  have k2 := h2
  obtain ⟨x0, x1, y0, y1, nn, rfl, rfl, rfl, t0, t1⟩ := Joins.open_agg2 Try.underlying25 (by kernel_rfl) (by kernel_rfl) (hval 2 25 v2 rfl rfl) h2
  obtain ⟨qq, e0, ee0, hq⟩ := DataW.trod_int Try.underlying3 t0
  obtain ⟨st, e1, ee1, hs⟩ := DataW.trod_string Try.underlying9 t1
  simp only [List.cons.injEq, and_true] at e0 e1
  subst e0
  subst e1
  subst ee0
  subst ee1
  have hst := strs_ok hsz (j := 2) (t := 25) (e0 := 3) (e1 := 9) rfl rfl Try.underlying25
  have hr := u64_range w1
  obtain ⟨n, rfl⟩ := Int.eq_ofNat_of_zero_le hr.1
  have k0 := h0
  have lt0 : ∀ x ∈ p0, x.block < W.heap.size := by obtain ⟨m, hm⟩ := k0; exact DataW.trod_lt m _ _ _ hm
  have lt2 : ∀ x ∈ ([] ++ [] : List MemPlace), x.block < W.heap.size := fun x hx => by simp at hx
  clear hA0 hval0
  refine (puts_walk A0 c0 B b0 n qq st W s0 (by omega) (by omega) (by omega)).mono fun e W' ⟨he, bel⟩ => ?_
  subst he
  exact ⟨_, rfl, _, _, _, [], _, [], hW', trodAll_mk1 (shut_bool Try.underlying4 _), (trodAll_cons_mk (Below.trod laidOut (by kernel_rfl) (of_decide_eq_true (by kernel_rfl)) k0 bel lt0) (trodAll_cons_mk (shut_int Try.underlying23 w1) (trodAll_cons_mk (Below.trod laidOut (by kernel_rfl) (of_decide_eq_true (by kernel_rfl)) k2 bel lt2) trodAll_mk0))), rfl, bel.frame _, fun h => by cases h⟩

theorem puts_over : Rows.octetPutsRow.holds Try.pinned (OpenSpec.ofChange Rows.octetPutsSpec) :=
  OpenClaim.holds_of_wide 3 Try.f3 rfl rfl rfl rfl rfl rfl rfl ⟨rfl, rfl, rfl, rfl, rfl⟩ rfl rfl rfl rfl rfl (by kernel_rfl) Try.func3 (by kernel_rfl)
    (of_decide_eq_true (by kernel_rfl)) (by unfold Func.isWrapper; first | (rw [if_pos (by decide +kernel)]; kernel_rfl) | (rw [if_neg (by decide +kernel)]; exact ⟨rfl, rfl⟩))
    (fun os started H enc _ => puts_lifted os started H enc)

theorem octetPuts_holds : Rows.OctetPutsSaid := puts_over
#print axioms octetPuts_holds
end Go.Proofs.Ytfdbfiaijaeklaa
