/-
  OctetBack: for every input the law returns true, and its arguments read as before.
  Conditions: none.
-/
import Derived.Test.YtfdbfiaijaeklaaL
import Derived.Test.YtfdbfiaijaeklaaBad
import Derived.Deep.RegionHeld3
import Derived.Deep.DeepCutAuto
import Derived.Deep.CutBlock
namespace Go.Proofs.Ytfdbfiaijaeklaa
open Go.ChangeShapes Go.WideShapes Go.ChangeAt Go.RowKit
set_option linter.unusedVariables false
set_option linter.unusedSimpArgs false

/-- What a slice of items reads as. -/
def Items (n : Nat) (F : Nat → Nat → Value) (T : Nat → Bool) (R N : Nat → Nat) (S : Nat → ByteArray) : Prop :=
  ∀ i, i < n → F i 0 = .bool (T i) ∧ F i 1 = .int .u8 (R i : Nat) ∧ F i 2 = .int .u64 (N i : Nat) ∧ F i 3 = .string (S i) ∧ R i < 256 ∧ N i < 18446744073709551616 ∧ (S i).size ≤ maxLen

/-- The width that an item's number chooses. -/
def wN (r : Nat) : Nat := if r % 4 = 0 then 1 else if r % 4 = 1 then 2 else if r % 4 = 2 then 4 else 8

/-- An item's bytes. -/
def encI (T : Nat → Bool) (R N : Nat → Nat) (S : Nat → ByteArray) (i : Nat) : List UInt8 :=
  if T i = true then (if wN (R i) = 8 ∨ (wN (R i) = 1 ∧ 255 < (S i).size) then [] else be (wN (R i)) (S i).size ++ sb (S i)) else be (wN (R i)) (N i)

/-- The first k items' bytes. -/
def encTo (T : Nat → Bool) (R N : Nat → Nat) (S : Nat → ByteArray) (k : Nat) : List UInt8 := (List.range k).flatMap (encI T R N S)
/-- The bytes from item k on. -/
def encFrom (T : Nat → Bool) (R N : Nat → Nat) (S : Nat → ByteArray) (n k : Nat) : List UInt8 := ((List.range n).drop k).flatMap (encI T R N S)

section
variable (T : Nat → Bool) (R N : Nat → Nat) (S : Nat → ByteArray)
theorem encTo_succ (k : Nat) : encTo T R N S (k + 1) = encTo T R N S k ++ encI T R N S k := by simp [encTo, List.range_succ]
theorem encFrom_step (n k : Nat) (h : k < n) : encFrom T R N S n k = encI T R N S k ++ encFrom T R N S n (k + 1) := by
  unfold encFrom
  rw [List.drop_eq_getElem_cons (by simpa using h)]
  simp
theorem encFrom_end (n : Nat) : encFrom T R N S n n = [] := by
  unfold encFrom
  rw [List.drop_of_length_le (by simp)]
  rfl
theorem encFrom_zero (n : Nat) : encFrom T R N S n 0 = encTo T R N S n := rfl
theorem encFrom_le (n k : Nat) : (encFrom T R N S n k).length ≤ (encTo T R N S n).length := by
  have h : encTo T R N S n = ((List.range n).take k).flatMap (encI T R N S) ++ encFrom T R N S n k := by
    unfold encTo encFrom
    rw [← List.flatMap_append, List.take_append_drop]
  rw [h, List.length_append]
  omega
theorem wN_le (r : Nat) : wN r ≤ 8 := by unfold wN; split <;> (try omega); split <;> (try omega); split <;> omega
theorem encI_length (i : Nat) (h : (S i).size ≤ 300) : (encI T R N S i).length ≤ 308 := by
  have hw := wN_le (R i)
  unfold encI
  split
  · split
    · simp
    · rw [List.length_append, be_length, sb_length]; omega
  · rw [be_length]; omega
theorem encTo_length : ∀ k, (∀ i, i < k → (S i).size ≤ 300) → (encTo T R N S k).length ≤ 308 * k
  | 0, _ => by simp [encTo]
  | k + 1, h => by
    have h1 := encTo_length k (fun i hi => h i (by omega))
    have h2 := encI_length T R N S k (h k (by omega))
    rw [encTo_succ, List.length_append]
    omega
end

set_option maxRecDepth 100000 in
set_option maxHeartbeats 4000000 in
theorem back_walk (A1 : Option Addr) (c1 n : Nat) (F : Nat → Nat → Value) (T : Nat → Bool) (R N : Nat → Nat) (S : Nat → ByteArray) (d1 : Nat) (w : World)
    (h1 : ShowsN w d1 (.slice A1 n c1) n 4 F) (hF : Items n F T R N S) (hb1 : n ≤ 140737488355328) :
    Calls Try.prog 5 #[.slice A1 n c1] w fun e w' => e = .returned (.bool true) ∧ Below w.heap.size w w' := by
  have HF := Lib.hid hF
  clear hF
  by_cases hn : n ≤ 60
  · have hn60 : decide ((60 : Int) < (n : Int)) = false := by simp; omega
    have hRw : (w.alloc (.cells #[.int .i64 1, .int .i64 2, .int .i64 4, .int .i64 8] 3)).heap[w.heap.size]? = some (.cells #[.int .i64 1, .int .i64 2, .int .i64 4, .int .i64 8] 3 (0, 0)) := heap_alloc_new w _
    have HRW := Lib.hid hRw
    have hW1 : Below w.heap.size w (w.alloc (.cells #[.int .i64 1, .int .i64 2, .int .i64 4, .int .i64 8] 3)) := (Below.refl _ _).alloc (Nat.le_refl _) _
    have h11 : ShowsN (w.alloc (.cells #[.int .i64 1, .int .i64 2, .int .i64 4, .int .i64 8] 3)) d1 (.slice A1 n c1) n 4 F := h1.below hW1
    clear hRw h1
    go_enter Try.func5, Try.ntmps5
    go_wp2_with fail
    generalize hw1 : w.alloc (.cells #[.int .i64 1, .int .i64 2, .int .i64 4, .int .i64 8] 3) = w1 at *
    have HW := Lib.hid hw1
    have hwl : w.heap.size + 1 = w1.heap.size := by rw [← hw1]; simp
    have HWL := Lib.hid hwl
    clear hw1 hwl
    go_loopw [4, 5] (fun s4 s5 wr => ∃ (k dv : Nat), k ≤ n ∧ s5 = .int .i64 k ∧ Hid (∀ i, i < k → (S i).size ≤ 300) ∧ Shows wr dv s4 (encTo T R N S k) ∧ Below w1.heap.size w1 wr) (fun _ i _ => n - (intOf i).toNat)
    case atStart => exact ⟨0, 0, Nat.zero_le _, rfl, fun i hi => absurd hi (by omega), Shows.nil_ _ _, Below.refl _ _⟩
    case round =>
      obtain ⟨k, dv, hk, rfl, hsm, hsh, hbr⟩ := hrel
      by_cases hlt : k < n
      · obtain ⟨o, rfl, hdl, hcl⟩ := h11.at_ (by omega)
        obtain ⟨e0, e1, e2, e3, hr, hN, hS⟩ := HF.out k hlt
        have f0 := hcl k 0 hlt (by omega)
        have f1 := hcl k 1 hlt (by omega)
        have f2 := hcl k 2 hlt (by omega)
        have f3 := hcl k 3 hlt (by omega)
        rw [e0] at f0
        rw [e1] at f1
        rw [e2] at f2
        rw [e3] at f3
        have q0 : wr.cell? ⟨d1, o + k * 4, none⟩ = some (.bool (T k)) := (hbr.cell (p := ⟨d1, o + k * 4, none⟩) hdl).trans f0
        have q1 : wr.cell? ⟨d1, o + k * 4 + 1, none⟩ = some (.int .u8 (R k : Nat)) := (hbr.cell (p := ⟨d1, o + k * 4 + 1, none⟩) hdl).trans f1
        have q2 : wr.cell? ⟨d1, o + k * 4 + 2, none⟩ = some (.int .u64 (N k : Nat)) := (hbr.cell (p := ⟨d1, o + k * 4 + 2, none⟩) hdl).trans f2
        have q3 : wr.cell? ⟨d1, o + k * 4 + 3, none⟩ = some (.string (S k)) := (hbr.cell (p := ⟨d1, o + k * 4 + 3, none⟩) hdl).trans f3
        have hRk : wr.heap[w.heap.size]? = some (.cells #[.int .i64 1, .int .i64 2, .int .i64 4, .int .i64 8] 3 (0, 0)) := (hbr.block _ (by have := HWL.out; omega)).trans HRW.out
        have p0 : wr.cell? ⟨w.heap.size, 0, none⟩ = some (.int .i64 1) := by rw [cell_of_row wr _ _ _ 3 (0, 0) hRk]; rfl
        have p1 : wr.cell? ⟨w.heap.size, 1, none⟩ = some (.int .i64 2) := by rw [cell_of_row wr _ _ _ 3 (0, 0) hRk]; rfl
        have p2 : wr.cell? ⟨w.heap.size, 2, none⟩ = some (.int .i64 4) := by rw [cell_of_row wr _ _ _ 3 (0, 0) hRk]; rfl
        have p3 : wr.cell? ⟨w.heap.size, 3, none⟩ = some (.int .i64 8) := by rw [cell_of_row wr _ _ _ 3 (0, 0) hRk]; rfl
        have hlen := encTo_length T R N S k hsm.out
        have hsucc := encTo_succ T R N S k
        have HSU := Lib.hid hsucc
        have HT : Hid (T k = T k) := rfl
        clear hcl e0 e1 e2 e3 f0 f1 f2 f3 hRk hsucc
        by_cases hbig : (S k).size ≤ 300
        · have tb : decide ((300 : Int) < ((S k).size : Int)) = false := by simp; omega
          have hsm' : Hid (∀ i, i < k + 1 → (S i).size ≤ 300) := fun i hi => by
            by_cases h : i < k
            · exact hsm.out i h
            · have : i = k := by omega
              subst this; exact hbig
          by_cases ht : T k = true
          · have h4 : R k % 4 = 0 ∨ R k % 4 = 1 ∨ R k % 4 = 2 ∨ R k % 4 = 3 := by omega
            rcases h4 with hr4 | hr4 | hr4 | hr4
            · by_cases h255 : (S k).size ≤ 255
              · have ha : ¬ 255 < (S k).size := by omega
                have HI : Hid (encI T R N S k = be 1 (S k).size ++ sb (S k)) := by show _ = _; unfold encI wN; simp [ht, hr4, ha]
                have hr5 : ((R k : Nat) : Int) % 4 = 0 := by omega
                have t255 : decide ((255 : Int) < ((S k).size : Int)) = false := by simp; omega
                clear hr4
                go_wp2_with fail
                refine (putText_ok1 _ _ dv (S k) _ hsh (by omega) (by omega)).mono ?_
                rintro e w2 ⟨v2, rfl, ho2, hb2⟩
                obtain ⟨g2, _, hs2⟩ := ho2.shows
                have q3' : w2.cell? ⟨d1, o + k * 4 + 3, none⟩ = some (.string (S k)) := (hb2.cell (p := ⟨d1, o + k * 4 + 3, none⟩) (by have := hbr.size; show d1 < _; omega)).trans q3
                go_wp2_with fail
                go_roundw
                case rel => exact ⟨k + 1, g2, by omega, by go_num, hsm', by rw [HSU.out, HI.out]; exact hs2, hbr.trans (hb2.mono hbr.size)⟩
                case measure => simp [intOf]; omega
              · have ha : 255 < (S k).size := by omega
                have HI : Hid (encI T R N S k = []) := by show _ = _; unfold encI wN; simp [ht, hr4, ha]
                have hr5 : ((R k : Nat) : Int) % 4 = 0 := by omega
                have t255 : decide ((255 : Int) < ((S k).size : Int)) = true := by simp; omega
                clear hr4
                go_wp2_with fail
                refine (putText_long1 _ (S k) _ (by omega) (by omega)).mono ?_
                rintro e w2 ⟨rfl, rfl⟩
                go_wp2_with fail
                go_roundw
                case rel => exact ⟨k + 1, dv, by omega, by go_num, hsm', by rw [HSU.out, HI.out, List.append_nil]; exact hsh, hbr⟩
                case measure => simp [intOf]; omega
            · -- a text of width 2
              have HI : Hid (encI T R N S k = be 2 (S k).size ++ sb (S k)) := by show _ = _; unfold encI wN; simp [ht, hr4]
              have hr5 : ((R k : Nat) : Int) % 4 = 1 := by omega
              have t9 : True := trivial
              clear hr4
              go_wp2_with fail
              refine (putText_ok2 _ _ dv (S k) _ hsh (by omega) (by omega)).mono ?_
              rintro e w2 ⟨v2, rfl, ho2, hb2⟩
              obtain ⟨g2, _, hs2⟩ := ho2.shows
              have q3' : w2.cell? ⟨d1, o + k * 4 + 3, none⟩ = some (.string (S k)) := (hb2.cell (p := ⟨d1, o + k * 4 + 3, none⟩) (by have := hbr.size; show d1 < _; omega)).trans q3
              go_wp2_with fail
              go_roundw
              case rel => exact ⟨k + 1, g2, by omega, by go_num, hsm', by rw [HSU.out, HI.out]; exact hs2, hbr.trans (hb2.mono hbr.size)⟩
              case measure => simp [intOf]; omega
            · -- a text of width 4
              have HI : Hid (encI T R N S k = be 4 (S k).size ++ sb (S k)) := by show _ = _; unfold encI wN; simp [ht, hr4]
              have hr5 : ((R k : Nat) : Int) % 4 = 2 := by omega
              have t9 : True := trivial
              clear hr4
              go_wp2_with fail
              refine (putText_ok4 _ _ dv (S k) _ hsh (by omega) (by omega)).mono ?_
              rintro e w2 ⟨v2, rfl, ho2, hb2⟩
              obtain ⟨g2, _, hs2⟩ := ho2.shows
              have q3' : w2.cell? ⟨d1, o + k * 4 + 3, none⟩ = some (.string (S k)) := (hb2.cell (p := ⟨d1, o + k * 4 + 3, none⟩) (by have := hbr.size; show d1 < _; omega)).trans q3
              go_wp2_with fail
              go_roundw
              case rel => exact ⟨k + 1, g2, by omega, by go_num, hsm', by rw [HSU.out, HI.out]; exact hs2, hbr.trans (hb2.mono hbr.size)⟩
              case measure => simp [intOf]; omega
            · -- no width of a text
              have HI : Hid (encI T R N S k = []) := by show _ = _; unfold encI wN; simp [ht, hr4]
              have hr5 : ((R k : Nat) : Int) % 4 = 3 := by omega
              clear hr4
              go_wp2_with fail
              refine (putText_arg _ (S k) 8 _ (by decide)).mono ?_
              rintro e w2 ⟨rfl, rfl⟩
              go_wp2_with fail
              go_roundw
              case rel => exact ⟨k + 1, dv, by omega, by go_num, hsm', by rw [HSU.out, HI.out, List.append_nil]; exact hsh, hbr⟩
              case measure => simp [intOf]; omega
          · have h4 : R k % 4 = 0 ∨ R k % 4 = 1 ∨ R k % 4 = 2 ∨ R k % 4 = 3 := by omega
            rcases h4 with hr4 | hr4 | hr4 | hr4
            · -- a number of width 1
              have HI : Hid (encI T R N S k = be 1 (N k)) := by show _ = _; unfold encI wN; simp [ht, hr4]
              have hr5 : ((R k : Nat) : Int) % 4 = 0 := by omega
              have tt : T k = false := by simpa using ht
              clear ht hr4
              go_wp2_with fail
              refine (put_any _ _ dv (N k) 1 _ hsh (by omega)).mono ?_
              rintro e w2 ⟨v2, rfl, ho2, hb2⟩
              obtain ⟨g2, _, hs2⟩ := ho2.shows
              go_wp2_with fail
              go_roundw
              case rel => exact ⟨k + 1, g2, by omega, by go_num, hsm', by rw [HSU.out, HI.out]; exact hs2, hbr.trans (hb2.mono hbr.size)⟩
              case measure => simp [intOf]; omega
            · -- a number of width 2
              have HI : Hid (encI T R N S k = be 2 (N k)) := by show _ = _; unfold encI wN; simp [ht, hr4]
              have hr5 : ((R k : Nat) : Int) % 4 = 1 := by omega
              have tt : T k = false := by simpa using ht
              clear ht hr4
              go_wp2_with fail
              refine (put_any _ _ dv (N k) 2 _ hsh (by omega)).mono ?_
              rintro e w2 ⟨v2, rfl, ho2, hb2⟩
              obtain ⟨g2, _, hs2⟩ := ho2.shows
              go_wp2_with fail
              go_roundw
              case rel => exact ⟨k + 1, g2, by omega, by go_num, hsm', by rw [HSU.out, HI.out]; exact hs2, hbr.trans (hb2.mono hbr.size)⟩
              case measure => simp [intOf]; omega
            · -- a number of width 4
              have HI : Hid (encI T R N S k = be 4 (N k)) := by show _ = _; unfold encI wN; simp [ht, hr4]
              have hr5 : ((R k : Nat) : Int) % 4 = 2 := by omega
              have tt : T k = false := by simpa using ht
              clear ht hr4
              go_wp2_with fail
              refine (put_any _ _ dv (N k) 4 _ hsh (by omega)).mono ?_
              rintro e w2 ⟨v2, rfl, ho2, hb2⟩
              obtain ⟨g2, _, hs2⟩ := ho2.shows
              go_wp2_with fail
              go_roundw
              case rel => exact ⟨k + 1, g2, by omega, by go_num, hsm', by rw [HSU.out, HI.out]; exact hs2, hbr.trans (hb2.mono hbr.size)⟩
              case measure => simp [intOf]; omega
            · -- a number of width 8
              have HI : Hid (encI T R N S k = be 8 (N k)) := by show _ = _; unfold encI wN; simp [ht, hr4]
              have hr5 : ((R k : Nat) : Int) % 4 = 3 := by omega
              have tt : T k = false := by simpa using ht
              clear ht hr4
              go_wp2_with fail
              refine (put_any _ _ dv (N k) 8 _ hsh (by omega)).mono ?_
              rintro e w2 ⟨v2, rfl, ho2, hb2⟩
              obtain ⟨g2, _, hs2⟩ := ho2.shows
              go_wp2_with fail
              go_roundw
              case rel => exact ⟨k + 1, g2, by omega, by go_num, hsm', by rw [HSU.out, HI.out]; exact hs2, hbr.trans (hb2.mono hbr.size)⟩
              case measure => simp [intOf]; omega
        · have tb : decide ((300 : Int) < ((S k).size : Int)) = true := by simp; omega
          go_wp2_with (go_at_call 13; refine (head_any _).mono ?_; rintro e w9 ⟨rfl, hb9⟩)
          go_ret
          exact ⟨rfl, hW1.trans ((hbr.trans (hb9.mono hbr.size)).mono hW1.size)⟩
      · have hkn : k = n := by omega
        have HKN := Lib.hid hkn
        clear hkn
        go_wp2_with fail
        refine (open_any _ _ dv _ hsh (by have := encTo_length T R N S k hsm.out; omega)).mono ?_
        rintro e w5 ⟨g, d, rfl, hr5, hg5, _, hb5⟩
        rw [HKN.out] at hr5
        have hg1 : w1.heap.size ≤ g := Nat.le_trans hbr.size hg5
        have hbv5 : Below w1.heap.size w1 w5 := hbr.trans (hb5.mono hbr.size)
        have hsn : Hid (∀ i, i < n → (S i).size ≤ 300) := by rw [← HKN.out]; exact hsm
        have hr0 : RS w5 g d (some (encFrom T R N S n 0)) := hr5
        clear hr5 hsm hsh hbr hb5 hlt
        go_wp2_with fail
        go_loopw [10] (fun s10 wv => ∃ k : Nat, k ≤ n ∧ s10 = .int .i64 k ∧ RS wv g d (some (encFrom T R N S n k)) ∧ Below w1.heap.size w1 wv) (fun i _ => n - (intOf i).toNat)
        case atStart => exact ⟨0, Nat.zero_le _, rfl, hr0, hbv5⟩
        case round =>
          rename World => wv
          obtain ⟨k, hk, rfl, hrs, hbv⟩ := hrel
          by_cases hlt : k < n
          · obtain ⟨o, rfl, hdl, hcl⟩ := h11.at_ (by omega)
            obtain ⟨e0, e1, e2, e3, hr, hN, hS⟩ := HF.out k hlt
            have hbig := hsn.out k hlt
            have f0 := hcl k 0 hlt (by omega)
            have f1 := hcl k 1 hlt (by omega)
            have f2 := hcl k 2 hlt (by omega)
            have f3 := hcl k 3 hlt (by omega)
            rw [e0] at f0
            rw [e1] at f1
            rw [e2] at f2
            rw [e3] at f3
            have q0 : wv.cell? ⟨d1, o + k * 4, none⟩ = some (.bool (T k)) := (hbv.cell (p := ⟨d1, o + k * 4, none⟩) hdl).trans f0
            have q1 : wv.cell? ⟨d1, o + k * 4 + 1, none⟩ = some (.int .u8 (R k : Nat)) := (hbv.cell (p := ⟨d1, o + k * 4 + 1, none⟩) hdl).trans f1
            have q2 : wv.cell? ⟨d1, o + k * 4 + 2, none⟩ = some (.int .u64 (N k : Nat)) := (hbv.cell (p := ⟨d1, o + k * 4 + 2, none⟩) hdl).trans f2
            have q3 : wv.cell? ⟨d1, o + k * 4 + 3, none⟩ = some (.string (S k)) := (hbv.cell (p := ⟨d1, o + k * 4 + 3, none⟩) hdl).trans f3
            have hRk : wv.heap[w.heap.size]? = some (.cells #[.int .i64 1, .int .i64 2, .int .i64 4, .int .i64 8] 3 (0, 0)) := (hbv.block _ (by have := HWL.out; omega)).trans HRW.out
            have p0 : wv.cell? ⟨w.heap.size, 0, none⟩ = some (.int .i64 1) := by rw [cell_of_row wv _ _ _ 3 (0, 0) hRk]; rfl
            have p1 : wv.cell? ⟨w.heap.size, 1, none⟩ = some (.int .i64 2) := by rw [cell_of_row wv _ _ _ 3 (0, 0) hRk]; rfl
            have p2 : wv.cell? ⟨w.heap.size, 2, none⟩ = some (.int .i64 4) := by rw [cell_of_row wv _ _ _ 3 (0, 0) hRk]; rfl
            have p3 : wv.cell? ⟨w.heap.size, 3, none⟩ = some (.int .i64 8) := by rw [cell_of_row wv _ _ _ 3 (0, 0) hRk]; rfl
            have hgv := hrs.lt
            have hzv := hbv.size
            have hbd : lenS (some (encFrom T R N S n k)) ≤ 140737488355328 := by
              show (encFrom T R N S n k).length ≤ _
              have h1 := encFrom_le T R N S n k
              have h2 := encTo_length T R N S n hsn.out
              omega
            clear hcl e0 e1 e2 e3 f0 f1 f2 f3 hRk
            by_cases ht : T k = true
            · have h4 : R k % 4 = 0 ∨ R k % 4 = 1 ∨ R k % 4 = 2 ∨ R k % 4 = 3 := by omega
              rcases h4 with hr4 | hr4 | hr4 | hr4
              · by_cases h255 : (S k).size ≤ 255
                · have ha : ¬ 255 < (S k).size := by omega
                  have t255 : decide ((255 : Int) < ((S k).size : Int)) = false := by simp; omega
                  have HI : Hid (encI T R N S k = be 1 (S k).size ++ sb (S k)) := by show _ = _; unfold encI wN; simp [ht, hr4, ha]
                  have HTS : Hid (textS 1 ((S k).size : Nat) (some (encFrom T R N S n k)) = (sb (S k), some (encFrom T R N S n (k + 1)))) := by show _ = _; rw [encFrom_step T R N S n k hlt, HI.out, List.append_assoc, ← sb_length]; exact textS_be 1 (sb (S k)) _ (by decide) (by rw [sb_length]; omega)
                  have hr5 : ((R k : Nat) : Int) % 4 = 0 := by omega
                  have hq3 : wv.drew.cell? ⟨d1, o + k * 4 + 3, none⟩ = some (.string (S k)) := q3
                  have hst := str8_sb (S k)
                  clear hr4
                  go_wp2_with fail
                  go_region_held3 (fun w' => w'.cell? ⟨d1, o + k * 4 + 3, none⟩ = some (.string (S k))) (assumption)
                    (first
                      | (go_at_call 18
                         refine (text_any g d _ 1 ((S k).size : Nat) _ (by exact hrs.keep (Nat.le_refl _) rfl (fun _ => rfl)) hbd (by omega) (by omega)).mono ?_
                         rintro e w2 ⟨rfl, hr2, hg2⟩
                         rw [HTS.out] at hr2
                         have hg2 : wv.grownBy w2 (some g) := ⟨hg2.os, hg2.tape, hg2.output, hg2.size, hg2.block⟩
                         have hq4 : w2.cell? ⟨d1, o + k * 4 + 3, none⟩ = some (.string (S k)) := (World.cell?_of_block (w := wv) (hg2.block _ (by show d1 < _; omega) (fun e => by injection e with e; have e : d1 = g := e; omega))).trans q3
                         have hb2 : Below w1.heap.size w1 w2 := hbv.trans (below_of_grown hg2 hg1 hbv.size)
                         simp only [HTS.out, str8_sb]))
                  all_goals
                    go_wp2_with fail
                    go_roundw
                    case rel => exact ⟨k + 1, by omega, by go_num, hr2, hb2⟩
                    case measure => simp [intOf]; omega
                · have ha : 255 < (S k).size := by omega
                  have HI : Hid (encI T R N S k = []) := by show _ = _; unfold encI wN; simp [ht, hr4, ha]
                  have HNX : Hid (encFrom T R N S n k = encFrom T R N S n (k + 1)) := by show _ = _; rw [encFrom_step T R N S n k hlt, HI.out]; rfl
                  have hr5 : ((R k : Nat) : Int) % 4 = 0 := by omega
                  have t255 : decide ((255 : Int) < ((S k).size : Int)) = true := by simp; omega
                  clear hr4
                  go_wp2_with fail
                  go_roundw
                  case rel => exact ⟨k + 1, by omega, by go_num, by rw [← HNX.out]; exact hrs, hbv⟩
                  case measure => simp [intOf]; omega
              · -- a text of width 2
                have HI : Hid (encI T R N S k = be 2 (S k).size ++ sb (S k)) := by show _ = _; unfold encI wN; simp [ht, hr4]
                have HTS : Hid (textS 2 ((S k).size : Nat) (some (encFrom T R N S n k)) = (sb (S k), some (encFrom T R N S n (k + 1)))) := by show _ = _; rw [encFrom_step T R N S n k hlt, HI.out, List.append_assoc, ← sb_length]; exact textS_be 2 (sb (S k)) _ (by decide) (by rw [sb_length]; omega)
                have hr5 : ((R k : Nat) : Int) % 4 = 1 := by omega
                have hq3 : wv.drew.cell? ⟨d1, o + k * 4 + 3, none⟩ = some (.string (S k)) := q3
                have hst := str8_sb (S k)
                clear hr4
                go_wp2_with fail
                go_region_held3 (fun w' => w'.cell? ⟨d1, o + k * 4 + 3, none⟩ = some (.string (S k))) (assumption)
                  (first
                    | (go_at_call 18
                       refine (text_any g d _ 2 ((S k).size : Nat) _ (by exact hrs.keep (Nat.le_refl _) rfl (fun _ => rfl)) hbd (by omega) (by omega)).mono ?_
                       rintro e w2 ⟨rfl, hr2, hg2⟩
                       rw [HTS.out] at hr2
                       have hg2 : wv.grownBy w2 (some g) := ⟨hg2.os, hg2.tape, hg2.output, hg2.size, hg2.block⟩
                       have hq4 : w2.cell? ⟨d1, o + k * 4 + 3, none⟩ = some (.string (S k)) := (World.cell?_of_block (w := wv) (hg2.block _ (by show d1 < _; omega) (fun e => by injection e with e; have e : d1 = g := e; omega))).trans q3
                       have hb2 : Below w1.heap.size w1 w2 := hbv.trans (below_of_grown hg2 hg1 hbv.size)
                       simp only [HTS.out, str8_sb]))
                all_goals
                  go_wp2_with fail
                  go_roundw
                  case rel => exact ⟨k + 1, by omega, by go_num, hr2, hb2⟩
                  case measure => simp [intOf]; omega
              · -- a text of width 4
                have HI : Hid (encI T R N S k = be 4 (S k).size ++ sb (S k)) := by show _ = _; unfold encI wN; simp [ht, hr4]
                have HTS : Hid (textS 4 ((S k).size : Nat) (some (encFrom T R N S n k)) = (sb (S k), some (encFrom T R N S n (k + 1)))) := by show _ = _; rw [encFrom_step T R N S n k hlt, HI.out, List.append_assoc, ← sb_length]; exact textS_be 4 (sb (S k)) _ (by decide) (by rw [sb_length]; omega)
                have hr5 : ((R k : Nat) : Int) % 4 = 2 := by omega
                have hq3 : wv.drew.cell? ⟨d1, o + k * 4 + 3, none⟩ = some (.string (S k)) := q3
                have hst := str8_sb (S k)
                clear hr4
                go_wp2_with fail
                go_region_held3 (fun w' => w'.cell? ⟨d1, o + k * 4 + 3, none⟩ = some (.string (S k))) (assumption)
                  (first
                    | (go_at_call 18
                       refine (text_any g d _ 4 ((S k).size : Nat) _ (by exact hrs.keep (Nat.le_refl _) rfl (fun _ => rfl)) hbd (by omega) (by omega)).mono ?_
                       rintro e w2 ⟨rfl, hr2, hg2⟩
                       rw [HTS.out] at hr2
                       have hg2 : wv.grownBy w2 (some g) := ⟨hg2.os, hg2.tape, hg2.output, hg2.size, hg2.block⟩
                       have hq4 : w2.cell? ⟨d1, o + k * 4 + 3, none⟩ = some (.string (S k)) := (World.cell?_of_block (w := wv) (hg2.block _ (by show d1 < _; omega) (fun e => by injection e with e; have e : d1 = g := e; omega))).trans q3
                       have hb2 : Below w1.heap.size w1 w2 := hbv.trans (below_of_grown hg2 hg1 hbv.size)
                       simp only [HTS.out, str8_sb]))
                all_goals
                  go_wp2_with fail
                  go_roundw
                  case rel => exact ⟨k + 1, by omega, by go_num, hr2, hb2⟩
                  case measure => simp [intOf]; omega
              · -- no width of a text
                have HI : Hid (encI T R N S k = []) := by show _ = _; unfold encI wN; simp [ht, hr4]
                have HNX : Hid (encFrom T R N S n k = encFrom T R N S n (k + 1)) := by show _ = _; rw [encFrom_step T R N S n k hlt, HI.out]; rfl
                have hr5 : ((R k : Nat) : Int) % 4 = 3 := by omega
                clear hr4
                go_wp2_with fail
                go_roundw
                case rel => exact ⟨k + 1, by omega, by go_num, by rw [← HNX.out]; exact hrs, hbv⟩
                case measure => simp [intOf]; omega
            · have h4 : R k % 4 = 0 ∨ R k % 4 = 1 ∨ R k % 4 = 2 ∨ R k % 4 = 3 := by omega
              rcases h4 with hr4 | hr4 | hr4 | hr4
              · -- a number of width 1
                have HI : Hid (encI T R N S k = be 1 (N k)) := by show _ = _; unfold encI wN; simp [ht, hr4]
                have HNS : Hid (numS 1 (some (encFrom T R N S n k)) = (N k % 256, some (encFrom T R N S n (k + 1)))) := by show _ = _; rw [encFrom_step T R N S n k hlt, HI.out]; exact numS_be 1 (N k) _ (by decide)
                have hr5 : ((R k : Nat) : Int) % 4 = 0 := by omega
                have hm : bits .and .u64 ((N k : Nat) : Int) 255 = ((N k % 256 : Nat) : Int) := and_mask (N k) 8 hN (by decide)
                have tt : T k = false := by simpa using ht
                clear ht hr4
                go_wp2_with fail
                refine (num_any g d _ 1 _ hrs hbd).mono ?_
                rintro e w2 ⟨rfl, hr2, hg2⟩
                rw [HNS.out] at hr2
                simp only [HNS.out]
                go_wp2_with fail
                go_roundw
                case rel => exact ⟨k + 1, by omega, by go_num, hr2, hbv.trans (below_of_grown hg2 hg1 hbv.size)⟩
                case measure => simp [intOf]; omega
              · -- a number of width 2
                have HI : Hid (encI T R N S k = be 2 (N k)) := by show _ = _; unfold encI wN; simp [ht, hr4]
                have HNS : Hid (numS 2 (some (encFrom T R N S n k)) = (N k % 65536, some (encFrom T R N S n (k + 1)))) := by show _ = _; rw [encFrom_step T R N S n k hlt, HI.out]; exact numS_be 2 (N k) _ (by decide)
                have hr5 : ((R k : Nat) : Int) % 4 = 1 := by omega
                have hm : bits .and .u64 ((N k : Nat) : Int) 65535 = ((N k % 65536 : Nat) : Int) := and_mask (N k) 16 hN (by decide)
                have tt : T k = false := by simpa using ht
                clear ht hr4
                go_wp2_with fail
                refine (num_any g d _ 2 _ hrs hbd).mono ?_
                rintro e w2 ⟨rfl, hr2, hg2⟩
                rw [HNS.out] at hr2
                simp only [HNS.out]
                go_wp2_with fail
                go_roundw
                case rel => exact ⟨k + 1, by omega, by go_num, hr2, hbv.trans (below_of_grown hg2 hg1 hbv.size)⟩
                case measure => simp [intOf]; omega
              · -- a number of width 4
                have HI : Hid (encI T R N S k = be 4 (N k)) := by show _ = _; unfold encI wN; simp [ht, hr4]
                have HNS : Hid (numS 4 (some (encFrom T R N S n k)) = (N k % 4294967296, some (encFrom T R N S n (k + 1)))) := by show _ = _; rw [encFrom_step T R N S n k hlt, HI.out]; exact numS_be 4 (N k) _ (by decide)
                have hr5 : ((R k : Nat) : Int) % 4 = 2 := by omega
                have hm : bits .and .u64 ((N k : Nat) : Int) 4294967295 = ((N k % 4294967296 : Nat) : Int) := and_mask (N k) 32 hN (by decide)
                have tt : T k = false := by simpa using ht
                clear ht hr4
                go_wp2_with fail
                refine (num_any g d _ 4 _ hrs hbd).mono ?_
                rintro e w2 ⟨rfl, hr2, hg2⟩
                rw [HNS.out] at hr2
                simp only [HNS.out]
                go_wp2_with fail
                go_roundw
                case rel => exact ⟨k + 1, by omega, by go_num, hr2, hbv.trans (below_of_grown hg2 hg1 hbv.size)⟩
                case measure => simp [intOf]; omega
              · -- a number of width 8
                have HI : Hid (encI T R N S k = be 8 (N k)) := by show _ = _; unfold encI wN; simp [ht, hr4]
                have HNS : Hid (numS 8 (some (encFrom T R N S n k)) = (N k, some (encFrom T R N S n (k + 1)))) := by show _ = _; rw [encFrom_step T R N S n k hlt, HI.out]; have h := numS_be 8 (N k) (encFrom T R N S n (k + 1)) (by decide); rw [Nat.mod_eq_of_lt (Nat.lt_of_lt_of_le hN (by decide))] at h; exact h
                have hr5 : ((R k : Nat) : Int) % 4 = 3 := by omega
                have tt : T k = false := by simpa using ht
                clear ht hr4
                go_wp2_with fail
                refine (num_any g d _ 8 _ hrs hbd).mono ?_
                rintro e w2 ⟨rfl, hr2, hg2⟩
                rw [HNS.out] at hr2
                simp only [HNS.out]
                go_wp2_with fail
                go_roundw
                case rel => exact ⟨k + 1, by omega, by go_num, hr2, hbv.trans (below_of_grown hg2 hg1 hbv.size)⟩
                case measure => simp [intOf]; omega
          · have hkn : k = n := by omega
            have hrn : RS wv g d (some []) := by rw [hkn, encFrom_end] at hrs; exact hrs
            have HRS := Lib.hid hrs
            clear hkn hrs
            go_wp2_with (first
              | (go_at_call 23; refine (bad_no g d _ _ hrn).mono ?_; rintro e w' ⟨rfl, rfl⟩)
              | (go_at_call 22; refine (left_some' g d _ 0 _ hrn rfl).mono ?_; rintro e w' ⟨rfl, rfl⟩)
              | (go_at_call 13; refine (head_any _).mono ?_; rintro e w9 ⟨rfl, hb9⟩))
            go_ret
            exact ⟨rfl, hW1.trans ((hbv.trans (hb9.mono hbv.size)).mono hW1.size)⟩
  · have hn60 : decide ((60 : Int) < (n : Int)) = true := by simp; omega
    go_enter Try.func5, Try.ntmps5
    go_wp2_with (go_at_call 13; refine (head_any _).mono ?_; rintro e w9 ⟨rfl, hb9⟩)
    go_ret
    exact ⟨rfl, hb9⟩


theorem u64_range {b : Int} (h : (Lit.int .u64 b).wf = true) : 0 ≤ b ∧ b < 18446744073709551616 := by
  simp only [Lit.wf, IntKind.min, IntKind.max, IntKind.signed, IntKind.bits, Bool.and_eq_true, decide_eq_true_eq] at h
  simp at h
  omega

theorem items_ok {H : Type} {enc : TypeId × Value → H} {w : World} {base : Nat} {spare : Nat → Bool} {held : Bool} {n : Nat} {F : Nat → Nat → Value} {fs : Array Field} (hs : Try.prog.underlying 52 = some (.struct fs))
    (h : ∀ i, i < n → ∀ (k : Nat) (f : Field), fs[k]? = some f → ∃ (fuel : Nat) (y : DataW H × List MemPlace), DataW.trod enc Try.prog w base spare held fuel f.type [F i k] = some y) : ∃ T R N S, Items n F T R N S := by
  rw [Try.underlying52] at hs
  injection hs with hs
  injection hs with hs
  subst hs
  have each : ∀ i, ∃ x : Bool × Nat × Nat × ByteArray, i < n → F i 0 = .bool x.1 ∧ F i 1 = .int .u8 (x.2.1 : Nat) ∧ F i 2 = .int .u64 (x.2.2.1 : Nat) ∧ F i 3 = .string x.2.2.2 ∧ x.2.1 < 256 ∧ x.2.2.1 < 18446744073709551616 ∧ x.2.2.2.size ≤ maxLen := fun i => by
    by_cases hi : i < n
    · obtain ⟨f0, y0, g0⟩ := h i hi 0 _ rfl
      obtain ⟨f1, y1, g1⟩ := h i hi 1 _ rfl
      obtain ⟨f2, y2, g2⟩ := h i hi 2 _ rfl
      obtain ⟨f3, y3, g3⟩ := h i hi 3 _ rfl
      obtain ⟨a, ea, _⟩ := DataW.trod_bool Try.underlying4 g0
      obtain ⟨b, eb, _, hb⟩ := DataW.trod_int Try.underlying5 g1
      obtain ⟨c, ec, _, hc⟩ := DataW.trod_int Try.underlying23 g2
      obtain ⟨s, es, _, hs⟩ := DataW.trod_string Try.underlying9 g3
      simp only [List.cons.injEq, and_true] at ea eb ec es
      have rb := u8_range hb
      have rc := u64_range hc
      exact ⟨(a, b.toNat, c.toNat, s), fun _ => ⟨ea, by rw [eb]; congr 1; show b = ((b.toNat : Nat) : Int); omega, by rw [ec]; congr 1; show c = ((c.toNat : Nat) : Int); omega, es, by show b.toNat < 256; omega, by show c.toNat < _; omega, hs⟩⟩
    · exact ⟨(false, 0, 0, ByteArray.empty), fun h => absurd h hi⟩
  exact ⟨fun i => (each i).choose.1, fun i => (each i).choose.2.1, fun i => (each i).choose.2.2.1, fun i => (each i).choose.2.2.2, fun i hi => (each i).choose_spec hi⟩

theorem bytes52 : Try.prog.bytesOf 52 = 32 := by kernel_rfl

set_option maxRecDepth 100000 in
theorem back_lifted (os : Os) (started : os.Started) (H : Type) (enc : TypeId × Value → H) :
    ReturnsInHanded {} Try.checked os 5 .any (Rows.octetBackSpec.pre6 enc Try.prog Try.f5 Rows.octetBackRow.domain false) (Rows.octetBackSpec.post enc Try.prog Try.f5 false true false false) := by
  refine returnsInHanded_of_change_sized (C := Try.checked) own started (by kernel_rfl) Try.func5
    (ChangeSpec.witness6 (enc := enc) (C := Try.checked) false ⟨#[], #[.slice none 0 0], []⟩ 8 (by kernel_rfl) (by kernel_rfl) (by kernel_rfl) (by kernel_rfl)) ?_
  intro W base args ds gs before hval0 hW hcnd hsz0 _
  have hval : ∀ (j : Nat) t v, Try.f5.params[j]? = some t → args[j]? = some v → Value.okWide Try.prog W .any base t v := hval0
  have hsz : (DataW.weightsEach Try.prog (Try.f5.params.toList ++ Rows.octetBackSpec.plain.varTypes Try.prog) (ds ++ gs)).all (· ≤ reachBytes) = true := hsz0
  have hW' := hW
  obtain ⟨p, q, hA0, hV, rfl, hfz, hnd⟩ := hW
  have hA : DataW.TrodAll enc Try.prog W 0 (fun _ => true) true Try.f5.params.toList args.toList ds p := hA0
  rw [Try.params5] at hA hval hsz
  obtain ⟨v1, vs1, d1, ds1, p1, q1, hargs, rfl, rfl, h1, r1⟩ := trodAll_cons hA
  obtain ⟨rfl, rfl, rfl⟩ := trodAll_nil r1
  obtain rfl : args = #[v1] := by cases args; simp_all
  obtain ⟨rfl, rfl⟩ := trodVars_none hV
  obtain ⟨A1, n, c1, b1, F, rfl, s1, l1, hF⟩ := open_structs Try.underlying49 Try.underlying52 (by kernel_rfl) (by kernel_rfl) (by decide) (hval 0 49 v1 rfl rfl) h1 hsz 0 rfl rfl
  obtain ⟨T, R, N, S, hI⟩ := items_ok Try.underlying52 hF
  rw [bytes52] at l1
  have k1 := h1
  have lt1 : ∀ x ∈ p1, x.block < W.heap.size := by obtain ⟨m, hm⟩ := k1; exact DataW.trod_lt m _ _ _ hm
  clear hA0 hval0
  refine (back_walk A1 c1 n F T R N S b1 W s1 hI (by omega)).mono fun e W' ⟨he, bel⟩ => ?_
  subst he
  exact ⟨_, rfl, _, _, _, [], _, [], hW', trodAll_mk1 (shut_bool Try.underlying4 _), (trodAll_cons_mk (Below.trod laidOut (by kernel_rfl) (of_decide_eq_true (by kernel_rfl)) k1 bel lt1) trodAll_mk0), rfl, bel.frame _, fun h => by cases h⟩

theorem back_over : Rows.octetBackRow.holds Try.pinned (OpenSpec.ofChange Rows.octetBackSpec) :=
  OpenClaim.holds_of_wide 5 Try.f5 rfl rfl rfl rfl rfl rfl rfl ⟨rfl, rfl, rfl, rfl, rfl⟩ rfl rfl rfl rfl rfl (by kernel_rfl) Try.func5 (by kernel_rfl)
    (of_decide_eq_true (by kernel_rfl)) (by unfold Func.isWrapper; first | (rw [if_pos (by decide +kernel)]; kernel_rfl) | (rw [if_neg (by decide +kernel)]; exact ⟨rfl, rfl⟩))
    (fun os started H enc _ => back_lifted os started H enc)

theorem octetBack_holds : Rows.OctetBackSaid := back_over
#print axioms octetBack_holds
end Go.Proofs.Ytfdbfiaijaeklaa
