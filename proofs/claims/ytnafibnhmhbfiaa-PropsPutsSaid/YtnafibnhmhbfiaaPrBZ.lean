/-
  The contracts of props.firstFlags, secondFlags and Check.
  Conditions: none but sizes.
-/
import Derived.Test.YtnafibnhmhbfiaaPrAZ
namespace Go.Proofs.Ytnafibnhmhbfiaa
open Go.RowKit
set_option linter.unusedVariables false
set_option linter.unusedSimpArgs false

theorem pflag_int (b : Bool) (n : Int) (w : World) : Calls Try.prog 61 #[.bool b, .int .u64 n] w fun e w' => e = .returned (.int .u64 (if b = true then n else 0)) ∧ w' = w := by
  cases b
  all_goals
    go_enter Try.func61, Try.ntmps61
    go_wp2_with fail
    go_ret
    exact ⟨rfl, rfl⟩
theorem calls_far {f : Nat} {args : Array Value} {w w' : World} {r : Value} (H : Calls Try.prog f args w' fun e w'' => e = .returned r ∧ Below w'.heap.size w' w'') (hb : Below w.heap.size w w') :
    Calls Try.prog f args w' fun e w'' => e = .returned r ∧ Below w.heap.size w w'' ∧ Below w'.heap.size w' w'' :=
  H.mono fun e w'' h => ⟨h.1, hb.trans (h.2.mono hb.size), h.2⟩
theorem or_flA (d r k : Bool) : bits .or .u64 (bits .or .u64 (if d = true then (1 : Int) else 0) (if r = true then (2 : Int) else 0)) (if k = true then (4 : Int) else 0) = (flA d r k : Nat) := by
  cases d <;> cases r <;> cases k <;> decide +kernel
theorem or_flB (i m : Bool) : bits .or .u64 (if i = true then (1 : Int) else 0) (if m = true then (2 : Int) else 0) = (flB i m : Nat) := by
  cases i <;> cases m <;> decide +kernel
theorem hasB_yes {s : ByteArray} (h : hasB s = true) : s.toList.isEmpty = false ∧ ¬ s.toList = [] := by
  have hl := hasB_list s
  rw [h] at hl
  exact ⟨hl, by intro e; rw [e] at hl; cases hl⟩
theorem hasB_not {s : ByteArray} (h : hasB s = false) : s.toList.isEmpty = true ∧ s.toList = [] := by
  have hl := hasB_list s
  rw [h] at hl
  exact ⟨hl, List.isEmpty_iff.1 hl⟩

set_option maxRecDepth 100000 in
set_option maxHeartbeats 4000000 in
theorem firstFlags_any (p : PropP) (v0 v1 v2 v3 v4 : Value) (w : World) :
    Calls Try.prog 29 #[propV p v0 v1 v2 v3 v4] w fun e w' => e = .returned (.int .u64 (fA p)) ∧ Below w.heap.size w w' := by
  obtain ⟨key, dur, red, id, app⟩ := p
  unfold propV fA
  simp only []
  have hl := hasB_list key
  have hor := or_flA dur red (hasB key)
  generalize flA dur red (hasB key) = F at *
  obtain ⟨kn, hkn⟩ : ∃ kn : Bool, kn = !hasB key := ⟨_, rfl⟩
  have hk2 : hasB key = !kn := by rw [hkn]; simp
  rw [← hkn] at hl
  rw [hk2] at hor
  have H1 := Lib.hid (fun w => pflag_int dur 1 w)
  have H2 := Lib.hid (fun w => pflag_int red 2 w)
  have H4 := Lib.hid (fun w => pflag_int (!kn) 4 w)
  generalize (if dur = true then (1 : Int) else 0) = f1 at *
  generalize (if red = true then (2 : Int) else 0) = f2 at *
  generalize (if (!kn) = true then (4 : Int) else 0) = f4 at *
  have HO := Lib.hid hor
  clear hkn hk2 hor
  go_enter Try.func29, Try.ntmps29
  go_wp2_with fail
  go_quiet (first | (go_at_call 61; with_reducible exact Calls.quiet_of_same (H1.out _)) | (go_at_call 61; with_reducible exact Calls.quiet_of_same (H2.out _)) | (go_at_call 61; with_reducible exact Calls.quiet_of_same (H4.out _)))
  go_wp2_with fail
  go_ret
  exact ⟨by rw [← HO.out]; rfl, below_drewN (below_boxV _ _) _⟩

set_option maxRecDepth 100000 in
set_option maxHeartbeats 4000000 in
theorem secondFlags_any (p : PropP) (v0 v1 v2 v3 v4 : Value) (w : World) (h : ShowsT w p.app [v0, v1, v2, v3, v4]) :
    Calls Try.prog 31 #[propV p v0 v1 v2 v3 v4] w fun e w' => e = .returned (.int .u64 (fB p)) ∧ Below w.heap.size w w' := by
  obtain ⟨key, dur, red, id, app⟩ := p
  unfold propV fB
  simp only [] at h ⊢
  have hl := hasB_list id
  have hor := or_flB (hasB id) (mapB app)
  generalize flB (hasB id) (mapB app) = F at *
  obtain ⟨kn, hkn⟩ : ∃ kn : Bool, kn = !hasB id := ⟨_, rfl⟩
  have hk2 : hasB id = !kn := by rw [hkn]; simp
  rw [← hkn] at hl
  rw [hk2] at hor
  have H1 := Lib.hid (fun w => pflag_int (!kn) 1 w)
  have H2 := Lib.hid (fun w => pflag_int (mapB app) 2 w)
  obtain ⟨k0, n0, s0, a3, n3, c3, a4, n4, c4, hvs⟩ := h.cells5
  simp only [List.cons.injEq, and_true] at hvs
  obtain ⟨rfl, rfl, rfl, rfl, rfl⟩ := hvs
  have hX := BoxPr.new (p := ⟨key, dur, red, id, app⟩) (v0 := .int .u8 k0) (v1 := .int .u64 n0) (v2 := .string s0) (v3 := .slice a3 n3 c3) (v4 := .slice a4 n4 c4) w
  have hbX := below_boxV w (Obj.cells #[.string key, .bool dur, .bool red, .string id, .int .u8 k0, .int .u64 n0, .string s0, .slice a3 n3 c3, .slice a4 n4 c4] 29)
  simp only [] at hX
  have HM := Lib.hid (fun w' (hb : Below w.heap.size w w') => calls_far (isMap_any app _ w' (h.kept hb (Nat.le_refl _))) hb)
  generalize mapB app = M at *
  generalize (if (!kn) = true then (1 : Int) else 0) = f1 at *
  generalize (if M = true then (2 : Int) else 0) = f2 at *
  have HO := Lib.hid hor
  have hd := below_drew1 hbX
  obtain ⟨⟨_, _, _, c3'⟩, c4', c5', c6', c7', c8'⟩ := hX.cells
  simp only [] at c3'
  have HKEEP := Lib.hid (fun w' (hb : Below (w.heap.size + 1) (w.alloc (Obj.cells #[.string key, .bool dur, .bool red, .string id, .int .u8 k0, .int .u64 n0, .string s0, .slice a3 n3 c3, .slice a4 n4 c4] 29)) w') =>
    (show w'.cell? ⟨w.heap.size, 3, none⟩ = some (.string id) ∧ w'.cell? ⟨w.heap.size, 4, none⟩ = some (.int .u8 k0) ∧ w'.cell? ⟨w.heap.size, 5, none⟩ = some (.int .u64 n0) ∧ w'.cell? ⟨w.heap.size, 6, none⟩ = some (.string s0) ∧ w'.cell? ⟨w.heap.size, 7, none⟩ = some (.slice a3 n3 c3) ∧ w'.cell? ⟨w.heap.size, 8, none⟩ = some (.slice a4 n4 c4) by
      have hX' := (hX.kept (B := w.heap.size + 1) hb (by simp)).cells
      obtain ⟨⟨_, _, _, c3'⟩, c4', c5', c6', c7', c8'⟩ := hX'
      exact ⟨c3', c4', c5', c6', c7', c8'⟩))
  have hk0 : Below (w.heap.size + 1) (w.alloc (Obj.cells #[.string key, .bool dur, .bool red, .string id, .int .u8 k0, .int .u64 n0, .string s0, .slice a3 n3 c3, .slice a4 n4 c4] 29)) (w.alloc (Obj.cells #[.string key, .bool dur, .bool red, .string id, .int .u8 k0, .int .u64 n0, .string s0, .slice a3 n3 c3, .slice a4 n4 c4] 29)).drew := below_drew1 (Below.refl _ _)
  have HTR := Lib.hid (fun w' w'' (h1 : Below (w.heap.size + 1) (w.alloc (Obj.cells #[.string key, .bool dur, .bool red, .string id, .int .u8 k0, .int .u64 n0, .string s0, .slice a3 n3 c3, .slice a4 n4 c4] 29)) w') (h2 : Below w'.heap.size w' w'') => (show Below (w.heap.size + 1) (w.alloc (Obj.cells #[.string key, .bool dur, .bool red, .string id, .int .u8 k0, .int .u64 n0, .string s0, .slice a3 n3 c3, .slice a4 n4 c4] 29)) w'' from h1.trans (h2.mono (by have := h1.size; simpa using this))))
  clear hkn hk2 hor hX h
  go_enter Try.func31, Try.ntmps31
  go_wp2_with fail
  go_region_held3 (fun w' => w'.cell? ⟨w.heap.size, 3, none⟩ = some (.string id) ∧ w'.cell? ⟨w.heap.size, 4, none⟩ = some (.int .u8 k0) ∧ w'.cell? ⟨w.heap.size, 5, none⟩ = some (.int .u64 n0) ∧ w'.cell? ⟨w.heap.size, 6, none⟩ = some (.string s0) ∧ w'.cell? ⟨w.heap.size, 7, none⟩ = some (.slice a3 n3 c3) ∧ w'.cell? ⟨w.heap.size, 8, none⟩ = some (.slice a4 n4 c4)) (exact HKEEP.out _ (by assumption))
    (first
      | (go_at_call 61; with_reducible refine (H1.out _).mono ?_; rintro e5 w5 ⟨rfl, rfl⟩)
      | (go_at_call 61; with_reducible refine (H2.out _).mono ?_; rintro e5 w5 ⟨rfl, rfl⟩)
      | (go_at_call 62; refine (HM.out _ (by assumption)).mono ?_; rintro e6 w6 ⟨rfl, hb6, hb7⟩; have hk6 := HTR.out _ _ (by assumption) hb7))
  all_goals
    go_wp2_with fail
    go_ret
    exact ⟨by rw [← HO.out]; rfl, by assumption⟩

open Classical in
noncomputable def errP (p : PropP) : Nat := if validPr p then 0 else 90
theorem errP_ok {p : PropP} (h : validPr p) : errP p = 0 := if_pos h
theorem errP_no {p : PropP} (h : ¬ validPr p) : errP p = 90 := if_neg h

set_option maxRecDepth 100000 in
set_option maxHeartbeats 4000000 in
theorem pcheck_any (p : PropP) (v0 v1 v2 v3 v4 : Value) (w : World) (h : ShowsP w p v0 v1 v2 v3 v4) (hc : cntT p.app ≤ 1000000) :
    Calls Try.prog 14 #[propV p v0 v1 v2 v3 v4] w fun e w' => e = .returned (.int .i64 (errP p)) ∧ Below w.heap.size w w' := by
  obtain ⟨key, dur, red, id, app⟩ := p
  obtain ⟨hz1, hz2, hT⟩ := h
  simp only [] at hz1 hz2 hT hc
  have HA := Lib.hid (fun w' (hb : Below w.heap.size w w') => isApp_any app _ w' (hT.kept hb (Nat.le_refl _)) hc)
  have hb0 := below_boxV w (Obj.cells #[.string key, .bool dur, .bool red, .string id, v0, v1, v2, v3, v4] 29)
  have hX := BoxPr.new (p := ⟨key, dur, red, id, app⟩) (v0 := v0) (v1 := v1) (v2 := v2) (v3 := v3) (v4 := v4) w
  obtain ⟨⟨c0, _, _, c3⟩, c4, c5, c6, c7, c8⟩ := hX.cells
  simp only [] at c0 c3
  obtain ⟨R, hR⟩ : ∃ R, R = errP ⟨key, dur, red, id, app⟩ := ⟨_, rfl⟩
  rw [← hR]
  have HB := Lib.hid hb0
  unfold propV
  simp only []
  by_cases h1 : key.size ≤ 255
  · by_cases h2 : id.size ≤ 255
    · have t1 : decide (255 < (key.size : Int)) = false := by simp; omega
      have t2 : decide (255 < (id.size : Int)) = false := by simp; omega
      obtain ⟨k0, n0, s0, a3, n3, c3', a4, n4, c4', hvs⟩ := hT.cells5
      simp only [List.cons.injEq, and_true] at hvs
      obtain ⟨rfl, rfl, rfl, rfl, rfl⟩ := hvs
      cases hap : appB app with
      | true =>
        have HF : Hid (R = 0) := Lib.hid (by rw [hR]; exact errP_ok ⟨h1, h2, by simpa [appB] using hap⟩)
        rw [hap] at HA
        clear hap hR hT hb0 hX hc
        go_enter Try.func14, Try.ntmps14
        go_wp2_with fail
        refine (HA.out _ HB.out).mono ?_
        rintro e w1 ⟨rfl, hb1⟩
        go_wp2_with fail
        go_ret
        exact ⟨by rw [HF.out]; rfl, HB.out.trans (hb1.mono HB.out.size)⟩
      | false =>
        have hnv : ¬ validPr ⟨key, dur, red, id, app⟩ := by
          intro hv
          have h3 : appB app = true := by simpa [appB] using hv.2.2
          rw [hap] at h3
          cases h3
        have HF : Hid (R = 90) := Lib.hid (by rw [hR]; exact errP_no hnv)
        rw [hap] at HA
        clear hap hR hT hb0 hX hc hnv
        go_enter Try.func14, Try.ntmps14
        go_wp2_with fail
        refine (HA.out _ HB.out).mono ?_
        rintro e w1 ⟨rfl, hb1⟩
        go_wp2_with fail
        go_ret
        exact ⟨by rw [HF.out]; rfl, HB.out.trans (hb1.mono HB.out.size)⟩
    · have t1 : decide (255 < (key.size : Int)) = false := by simp; omega
      have t2 : decide (255 < (id.size : Int)) = true := by simp; omega
      have HF : Hid (R = 90) := Lib.hid (by rw [hR]; exact errP_no fun hv => h2 hv.2.1)
      clear hR hT hb0 hX hc
      go_enter Try.func14, Try.ntmps14
      go_wp2_with fail
      go_ret
      exact ⟨by rw [HF.out]; rfl, HB.out⟩
  · have t1 : decide (255 < (key.size : Int)) = true := by simp; omega
    have HF : Hid (R = 90) := Lib.hid (by rw [hR]; exact errP_no fun hv => h1 hv.1)
    clear hR hT hb0 hX hc
    go_enter Try.func14, Try.ntmps14
    go_wp2_with fail
    go_ret
    exact ⟨by rw [HF.out]; rfl, HB.out⟩

end Go.Proofs.Ytnafibnhmhbfiaa
