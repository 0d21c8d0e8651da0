/-
  The contracts of record.size, record.header and record.Put.
  Conditions: the table reads as the program lays it; at most 40 records of at most 70000 bytes each.
-/
import Derived.Test.YtmpcddljgcckcaaDoorRcP
import Derived.Test.YtmpcddljgcckcaaDoorBld
import Derived.Deep.DeepCutAuto
import Derived.Lib.ConvBytes
namespace Go.Proofs.YtmpcddljgcckcaaDoor
open Go.RowKit
open Crc (sealD okSeal sealD_length sealD_ok okSeal_iff openD Tab)
set_option linter.unusedVariables false
set_option linter.unusedSimpArgs false

/-- A record's value. -/
def Rc.v (r : Rc) : Value := .agg #[.int .u8 r.k.toNat, .string r.p]

theorem size_len (n : Nat) (w : World) (h : n ≤ 140737488355328) : Calls Tryd.prog 23 #[.int .i64 n] w fun e w' => e = .returned (.int .i64 (n + 13 : Nat)) ∧ w' = w := by
  have e1 : ((n + 13 : Nat) : Int) = (n : Int) + 13 := by omega
  rw [e1]
  go_enter Tryd.func23, Tryd.ntmps23
  go_wp2_with fail
  go_ret
  exact ⟨by show Ending.returned (.int .i64 (9 + (n : Int) + 4)) = _; congr 2; omega, rfl⟩

set_option maxRecDepth 100000 in
theorem header_any (r : Rc) (w : World) (h : r.p.size ≤ 140737488355328) : Calls Tryd.prog 18 #[r.v] w fun e w' => ∃ v, e = .returned v ∧ Own 5 w' w.heap.size v (headP r) ∧ Below w.heap.size w w' := by
  obtain ⟨k, p⟩ := r
  have hk := k.toNat_lt
  have e8 : headP ⟨k, p⟩ = be 1 k.toNat ++ be 4 p.size := rfl
  have h1 := put_any (.slice none 0 0) [] 0 k.toNat 1
  have h4 := put_any
  rw [e8]
  clear e8
  unfold Rc.v
  simp only []
  simp only [] at h
  generalize k.toNat = K at *
  have HP1 := Lib.hid (fun W => h1 W (Shows.nil_ _ _) (by simp))
  have HP4 := Lib.hid h4
  clear h1 h4
  go_enter Tryd.func18, Tryd.ntmps18
  go_wp2_with fail
  refine (HP1.out _).mono ?_
  rintro e w1 ⟨v1, rfl, ho1, hb1⟩
  rw [List.nil_append, show wd 1 = 1 from rfl] at ho1
  generalize hX : w.alloc _ = X at *
  have hbX : Below w.heap.size w X := by rw [← hX]; exact (Below.refl _ _).alloc (Nat.le_refl _) _
  have hc : X.cell? ⟨w.heap.size, 1, none⟩ = some (.string p) := by rw [← hX, cell_of_row _ _ 1 _ 33 (0, 0) (heap_alloc_new w _)]; rfl
  have hXs : w.heap.size < X.heap.size := by rw [← hX]; simp
  have hc1 : w1.cell? ⟨w.heap.size, 1, none⟩ = some (.string p) := (World.cell?_of_block (w := X) (hb1.block _ hXs)).trans hc
  obtain ⟨g1, _, hs1⟩ := ho1.shows
  clear hX hc
  go_wp2_with fail
  refine (HP4.out v1 _ g1 p.size 4 w1 hs1 (by simp [be_length])).mono ?_
  rintro e w2 ⟨v2, rfl, ho2, hb2⟩
  go_wp2_with fail
  go_ret
  exact ⟨v2, rfl, ho2.mono (by have := hb1.size; omega), hbX.trans ((hb1.mono (by omega)).trans (hb2.mono (by have := hb1.size; omega)))⟩

/-- '[]byte(s)'. -/
theorem rc_tobytes (w : World) (s : ByteArray) (hs : s.size ≤ 140737488355328) : ∃ v w', (convert 9 31 (.string s)).run Tryd.prog w = .ok v w' ∧ Shows w' w.heap.size v (sb s) ∧ Below w.heap.size w w' := by
  refine ⟨_, _, Lib.run_convert_string_bytes w 9 31 5 s Tryd.underlying9 Tryd.underlying31 Tryd.underlying5, ?_, ?_⟩
  · refine ⟨_, _, by rw [sb_length], by rw [sb_length]; exact grownCap_ge _ _ _ _, grownCap_le_maxLen _ _ _ _ (by simp only [maxLen]; omega), fun hp => ⟨0, rfl, by rw [Lib.bytesWorld_size]; omega, fun j hj => ?_⟩⟩
    rw [Nat.zero_add, Lib.bytesWorld_cell _ _ _ _ (by rw [← sb_length]; exact hj)]
    have : s.data.toList = sb s := rfl
    rw [this]
    simp [u8c, List.getD, hj]
  · exact ⟨rfl, rfl, rfl, by rw [Lib.bytesWorld_size]; omega, fun k hk => Lib.bytesWorld_at_old w _ s k hk⟩

/-- What Put says. -/
def putR (l : List Rc) : ByteArray × Nat := if l.all (fun r => decide (r.p.size ≤ 65536)) then (str8 (recsB l), 0) else (⟨#[]⟩, 3)
def RPutSaid (l : List Rc) (w : World) (e : Ending) (w' : World) : Prop := e = .returned (.tuple #[.string (putR l).1, .int .i64 (putR l).2]) ∧ Below w.heap.size w w'
theorem putR_ok {l : List Rc} (h : ∀ r ∈ l, r.p.size ≤ 65536) : putR l = (str8 (recsB l), 0) := by
  unfold putR
  rw [if_pos (by simpa using h)]
theorem putR_no {l : List Rc} {k : Nat} (hk : k < l.length) (h : 65536 < l[k].p.size) : putR l = (⟨#[]⟩, 3) := by
  unfold putR
  rw [if_neg]
  intro h2
  have := List.all_eq_true.1 h2 l[k] (List.getElem_mem hk)
  simp at this
  omega
theorem recsB_len : ∀ (l : List Rc) (M : Nat), (∀ r ∈ l, r.p.size ≤ M) → (recsB l).length ≤ l.length * (M + 13)
  | [], _, _ => by simp [recsB_nil]
  | r :: l, M, h => by
    have := recsB_len l M fun x hx => h x (by simp [hx])
    have h1 := h r (by simp)
    rw [recsB_cons, List.length_append, recB_length, List.length_cons, Nat.add_mul]
    omega

theorem rc_cell {w : World} {d o : Nat} {l : List Rc} (h : ∀ j (h : j < l.length) k, k < rcC.sz → w.cell? ⟨d, o + (j * rcC.sz + k), none⟩ = (rcC.enc l[j])[k]?) {k : Nat} (hk : k < l.length) :
    w.cell? ⟨d, o + k * 2, none⟩ = some (.int .u8 (l[k].k.toNat : Nat)) ∧ w.cell? ⟨d, o + k * 2 + 1, none⟩ = some (.string l[k].p) :=
  ⟨h k hk 0 (by decide), h k hk 1 (by decide)⟩

theorem take_room (l : List Rc) (k : Nat) (hn : l.length ≤ 1000) (hp : ∀ r ∈ l, r.p.size ≤ 70000) : (recsB (l.take k)).length ≤ 70013000 := by
  have h1 := recsB_len (l.take k) 70000 (fun x hx => hp x (List.mem_of_mem_take hx))
  have h2 : (l.take k).length ≤ 1000 := by rw [List.length_take]; omega
  omega

/-- The builder while Put runs. -/
def PutMid (w : World) (l : List Rc) (k : Nat) (wr : World) : Prop :=
  (∀ r ∈ l.take k, r.p.size ≤ 65536) ∧ Bld w.heap.size w.heap.size (recsB (l.take k)) wr ∧ Below w.heap.size w wr ∧ (k = 0 → wr.heap[w.heap.size]? = some (.cells #[.pointer none, .slice none 0 0] 51 (0, 0))) ∧ w.heap.size < wr.heap.size

set_option maxRecDepth 100000 in
set_option maxHeartbeats 4000000 in
theorem rput_any (A : Option Addr) (c d0 : Nat) (l : List Rc) (w : World) (hT : Tab w) (h : ShowsG rcC w d0 (.slice A l.length c) l) (hn : l.length ≤ 1000) (hp : ∀ r ∈ l, r.p.size ≤ 70000) :
    Calls Tryd.prog 11 #[.slice A l.length c] w (RPutSaid l w) := by
  have HT := Lib.hid (fun w' (hb : Below w.heap.size w w') => hT.below hb hT.1)
  have HL := Lib.hid (fun w' (hb : Below w.heap.size w w') => (h.keep hb.size fun hp => hb.block d0 (h.lt hp) : ShowsG rcC w' d0 (.slice A l.length c) l))
  have HPZ := Lib.hid hp
  have HM0 := Lib.hid (show PutMid w l 0 (w.alloc (.cells #[.pointer none, .slice none 0 0] 51)) from ⟨by simp, by rw [List.take_zero]; exact Bld.fresh w, (Below.refl _ _).alloc (Nat.le_refl _) _, fun _ => heap_alloc_new w _, by simp⟩)
  unfold RPutSaid
  clear h hT hp
  go_enter Tryd.func11, Tryd.ntmps11
  go_wp2_with fail
  go_loopw [9] (fun i wr => ∃ k : Nat, i = .int .i64 k ∧ k ≤ l.length ∧ Hid (PutMid w l k wr)) (fun i _ => l.length - (intOf i).toNat)
  case atStart => exact ⟨0, rfl, Nat.zero_le _, HM0⟩
  case round =>
    obtain ⟨k, rfl, hk, HM⟩ := hrel
    rename World => wj
    obtain ⟨M1, M2, M3, M4, M5⟩ := HM.out
    have hM3s := M3.size
    have HLj := HL.out wj M3
    have HTj := HT.out wj M3
    by_cases hlt : k < l.length
    · obtain ⟨o, rfl, hd0, hcl⟩ := HLj.at_ (by omega)
      obtain ⟨c0, c1⟩ := rc_cell hcl hlt
      have hdj : d0 < wj.heap.size := hd0
      obtain ⟨r, hr⟩ : ∃ r, r = l[k] := ⟨_, rfl⟩
      have hrm : r ∈ l := by rw [hr]; exact List.getElem_mem hlt
      have hps := HPZ.out r hrm
      rw [← hr] at c0 c1
      have htk : l.take (k + 1) = l.take k ++ [r] := by rw [hr, List.take_succ_eq_append_getElem hlt]
      have HTK := Lib.hid htk
      have HRL := Lib.hid hr
      clear htk hr HLj hcl
      have hlen := take_room l k hn HPZ.out
      have HLEN := Lib.hid hlen
      clear hlen
      obtain ⟨K, p⟩ := r
      simp only [] at c0 c1 hps
      have hK := K.toNat_lt
      have HHD := Lib.hid (fun W => header_any ⟨K, p⟩ W (by show p.size ≤ _; omega))
      simp only [Rc.v] at HHD
      generalize hKn : K.toNat = Kn at *
      by_cases hbig : 65536 < p.size
      · have hans := putR_no hlt (by rw [← HRL.out]; exact hbig)
        have HA := Lib.hid hans
        clear hans
        have hbi : (65536 : Int) < (p.size : Int) := by omega
        go_wp2_with fail
        go_ret2
        refine ⟨by rw [HA.out]; rfl, ?_⟩
        exact M3.alloc M3.size _
      · have hbi : ¬ (65536 : Int) < (p.size : Int) := by omega
        have hp47 : p.size ≤ 140737488355328 := by omega
        have hBox := heap_alloc_new wj (.cells #[.int .u8 (Kn : Nat), .string p] 33)
        have hB1 : Below w.heap.size w (wj.alloc (.cells #[.int .u8 (Kn : Nat), .string p] 33)) := M3.alloc M3.size _
        have hs1 : (wj.alloc (.cells #[.int .u8 (Kn : Nat), .string p] 33)).heap.size = wj.heap.size + 1 := by simp
        have hBw : Below wj.heap.size wj (wj.alloc (.cells #[.int .u8 (Kn : Nat), .string p] 33)) := (Below.refl _ _).alloc (Nat.le_refl _) _
        go_wp2_with fail
        generalize wj.alloc _ = W1 at *
        have x1 : W1.cell? ⟨wj.heap.size, 1, none⟩ = some (.string p) := by rw [cell_of_row _ _ 1 _ 33 (0, 0) hBox]; rfl
        with_reducible refine (HHD.out W1).mono ?_
        rintro e w2 ⟨v2, rfl, ho2, hb2⟩
        have hB2 : Below w.heap.size w w2 := hB1.trans (hb2.mono hB1.size)
        have hw2 : Below wj.heap.size wj w2 := hBw.trans (hb2.mono (by omega))
        have hz2 := hb2.size
        obtain ⟨g2, hg2, hs2⟩ := ho2.shows
        have HE : recsB (l.take (k + 1)) = recsB (l.take k) ++ sealD (headP ⟨K, p⟩) ++ sealD (sb p) := by
          rw [HTK.out, recsB_append, recsB_cons, recsB_nil, List.append_nil, recB, List.append_assoc]
        have HEH := Lib.hid HE
        have H5 := Lib.hid (headP_length ⟨K, p⟩)
        clear HE
        generalize headP ⟨K, p⟩ = H at *
        obtain ⟨A2, c2, rfl, _, _⟩ := ho2.form
        have HSE := Lib.hid (Crc.seal_any A2 c2 g2 H w2 (HT.out w2 hB2) hs2 (fun hp => hs2.lt hp) (by have := H5.out; omega))
        clear hs2 ho2
        go_wp2_with fail
        with_reducible refine HSE.out.mono ?_
        rintro e w3 ⟨v3, rfl, ho3, hb3⟩
        have hB3 : Below w.heap.size w w3 := hB2.trans (hb3.mono hB2.size)
        have hw3 : Below wj.heap.size wj w3 := hw2.trans (hb3.mono (by omega))
        have hz3 := hb3.size
        obtain ⟨g3, hg3, hs3⟩ := ho3.shows
        have H9 := Lib.hid (show (sealD H).length = 9 by rw [sealD_length, H5.out])
        have HW3 := Lib.hid (bwrite_any w.heap.size w.heap.size g3 (recsB (l.take k)) (sealD H) v3 w3 (M2.below hw3) hs3 (fun hp => by have := hg3 hp; omega) (by have := HLEN.out; have := H9.out; omega) (by omega))
        clear hs3 ho3
        go_wp2_with fail
        with_reducible refine HW3.out.mono ?_
        rintro e w4 ⟨rfl, hbl4, hb4, hk4⟩
        have hB4 : Below w.heap.size w w4 := hB3.trans hb4
        have hz4 := hb4.size
        have x4 : w4.cell? ⟨wj.heap.size, 1, none⟩ = some (.string p) := by
          have e3 : w3.heap[wj.heap.size]? = W1.heap[wj.heap.size]? := (hb3.block _ (by omega)).trans (hb2.block _ (by omega))
          rw [hBox] at e3
          have e4 := hk4 wj.heap.size _ _ _ e3 (by decide) (by omega)
          have e5 := e3.trans hBox.symm
          rw [World.cell?_of_block (w := w3) e4, World.cell?_of_block (w := W1) e5, x1]
        obtain ⟨v5, w5, hcv, hs5, hb5⟩ := rc_tobytes w4 p hp47
        have hz5 := hb5.size
        have hB5 : Below w.heap.size w w5 := hB4.trans (hb5.mono hB4.size)
        have hd5 : 0 < (sb p).length → w4.heap.size < w5.heap.size := fun hp => hs5.lt hp
        obtain ⟨A5, c5, rfl, _⟩ := id hs5
        have HSP := Lib.hid (sb_length p)
        have HSE2 := Lib.hid (Crc.seal_any A5 c5 w4.heap.size (sb p) w5 (HT.out w5 hB5) hs5 hd5 (by rw [HSP.out]; omega))
        clear hs5 hd5
        generalize sb p = P at *
        go_wp2_with fail
        with_reducible refine HSE2.out.mono ?_
        rintro e w6 ⟨v6, rfl, ho6, hb6⟩
        have hB6 : Below w.heap.size w w6 := hB5.trans (hb6.mono hB5.size)
        have hz6 := hb6.size
        obtain ⟨g6, hg6, hs6⟩ := ho6.shows
        have H10 := Lib.hid (show (sealD P).length = p.size + 4 by rw [sealD_length, HSP.out])
        have HW6 := Lib.hid (bwrite_any w.heap.size w.heap.size g6 (recsB (l.take k) ++ sealD H) (sealD P) v6 w6 (hbl4.below ((hb5.trans (hb6.mono hz5)))) hs6 (fun hp => by have := hg6 hp; omega) (by have := HLEN.out; have := H9.out; have := H10.out; rw [List.length_append]; omega) (by omega))
        clear hs6 ho6
        go_wp2_with fail
        with_reducible refine HW6.out.mono ?_
        rintro e w7 ⟨rfl, hbl7, hb7, hk7⟩
        have hB7 : Below w.heap.size w w7 := hB6.trans hb7
        have hz7 := hb7.size
        go_wp2_with fail
        go_roundw
        case rel =>
          refine ⟨k + 1, by go_num, by omega, Lib.hid ⟨?_, by rw [HEH.out]; exact hbl7, hB7, fun h0 => by omega, by omega⟩⟩
          intro x hx
          rw [HTK.out] at hx
          rcases List.mem_append.1 hx with hx | hx
          · exact M1 x hx
          · simp only [List.mem_singleton] at hx
            subst hx
            show p.size ≤ 65536
            omega
        case measure => simp [intOf]; omega
    · have hke : k = l.length := by omega
      have htk : l.take k = l := by rw [hke, List.take_length]
      rw [htk] at M1 M2
      have HA := Lib.hid (putR_ok M1)
      have hnl : ¬ (k : Int) < (l.length : Int) := by omega
      have hst : Calls Tryd.prog 19 #[.pointer (some ⟨w.heap.size, 0, none⟩)] wj fun e w' => e = .returned (.string (str8 (recsB l))) ∧ Below w.heap.size wj w' := by
        by_cases h0 : l = []
        · subst h0
          refine (bstring_nil w.heap.size w.heap.size _ wj (M4 (by simpa using hke))).mono ?_
          rintro e w' ⟨rfl, hb⟩
          exact ⟨rfl, hb⟩
        · exact bstring_some w.heap.size w.heap.size (recsB l) wj M2 (by
            intro e
            have := congrArg List.length e
            cases l with
            | nil => exact h0 rfl
            | cons x l => rw [recsB_cons, List.length_append, recB_length] at this; simp at this)
      have HST := Lib.hid hst
      clear hst
      have HKE := Lib.hid hke
      clear hke htk
      go_wp2_with fail
      with_reducible refine HST.out.mono ?_
      rintro e w7 ⟨rfl, hb7⟩
      go_wp2_with fail
      go_ret2
      exact ⟨by rw [HA.out]; rfl, M3.trans hb7⟩

end Go.Proofs.YtmpcddljgcckcaaDoor
