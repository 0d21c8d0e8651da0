/-
  The contract of the document's Parse of names.
  Conditions: at most 2^47 bytes.
-/
import Derived.Test.YtalcfglcbpkebaaDoorXiT
import Derived.Test.YtalcfglcbpkebaaDoorRef04E
import Derived.Test.YtalcfglcbpkebaaDoorRef04F
import Derived.Deep.DeepCutAuto
import Derived.Deep.CutBlock
import Derived.WalkSpells
namespace Go.Proofs.YtalcfglcbpkebaaDoor
open Go.RowKit
set_option linter.unusedVariables false
set_option linter.unusedSimpArgs false

def sc1 (n k : Nat) : List UInt8 → Nat × Nat
  | [] => (n, k)
  | c :: l => if 48 ≤ c.toNat ∧ c.toNat ≤ 57 ∧ n < 4294967296 then sc1 (10 * n + (c.toNat - 48)) (k + 1) l else (n, k)
def sc2 (k : Nat) : List UInt8 → Nat
  | [] => k
  | c :: l => if c.toNat ≠ 46 then sc2 (k + 1) l else k

theorem qunhex_any (s : ByteArray) (w : World) (hs : s.size ≤ 140737488355328) :
    Calls Tryd.prog 48 #[.string s] w fun e w' => e = .returned (.tuple #[.string (str8 ((unhexD (sb s)).getD [])), .bool (unhexD (sb s)).isSome]) ∧ Below w.heap.size w w' := by
  by_cases h : s.size % 2 = 0
  · exact qunhex_even s w hs h
  · have := qunhex_odd s w hs h
    rw [unhexD_odd _ (sb s) rfl (by rw [sb_length]; exact h)]
    exact this

theorem sc1_stop (n k : Nat) (s : ByteArray) (h : k < s.size) (hc : ¬ (48 ≤ (s[k]'h).toNat ∧ (s[k]'h).toNat ≤ 57 ∧ n < 4294967296)) : sc1 n k ((sb s).drop k) = (n, k) := by
  rw [sb_drop s k h, sc1, if_neg hc]
theorem sc1_go (n k : Nat) (s : ByteArray) (h : k < s.size) (hc : 48 ≤ (s[k]'h).toNat ∧ (s[k]'h).toNat ≤ 57 ∧ n < 4294967296) : sc1 n k ((sb s).drop k) = sc1 (10 * n + ((s[k]'h).toNat - 48)) (k + 1) ((sb s).drop (k + 1)) := by
  rw [sb_drop s k h, sc1, if_pos hc]
theorem sc1_end (n k : Nat) (s : ByteArray) (h : ¬ k < s.size) : sc1 n k ((sb s).drop k) = (n, k) := by
  rw [List.drop_of_length_le (by rw [sb_length]; omega), sc1]

theorem sc2_stop (k : Nat) (s : ByteArray) (h : k < s.size) (hc : (s[k]'h).toNat = 46) : sc2 k ((sb s).drop k) = k := by
  rw [sb_drop s k h, sc2, if_neg (by simpa using hc)]
theorem sc2_go (k : Nat) (s : ByteArray) (h : k < s.size) (hc : (s[k]'h).toNat ≠ 46) : sc2 k ((sb s).drop k) = sc2 (k + 1) ((sb s).drop (k + 1)) := by
  rw [sb_drop s k h, sc2, if_pos hc]
theorem sc2_end (k : Nat) (s : ByteArray) (h : ¬ k < s.size) : sc2 k ((sb s).drop k) = k := by
  rw [List.drop_of_length_le (by rw [sb_length]; omega), sc2]
theorem sb_extract (s : ByteArray) (a b : Nat) : sb (s.extract a b) = ((sb s).drop a).take (b - a) := by
  unfold sb
  rw [ByteArray.data_extract, Array.toList_extract]

theorem unhexD_len : ∀ (n : Nat) (l : List UInt8), l.length ≤ n → ((unhexD l).getD []).length ≤ l.length
  | _, [], _ => by simp [unhexD]
  | _, [_], _ => by simp [unhexD]
  | 0, _ :: _ :: _, h => absurd h (by simp)
  | n + 1, a :: b :: l, h => by
    have ih := unhexD_len n l (by simp at h; omega)
    rw [unhexD]
    split
    · simp
    · cases hu : unhexD l with
      | none => simp
      | some r => rw [hu] at ih; simp at ih ⊢; omega

theorem qtextX_both (f : Nat) (g h : ByteArray) (hf : f < 4294967296) (hg : g.size ≤ 140737488355328) (hh : h.size ≤ 140737488355328) : ∃ (tx : ByteArray) (er : Int),
    (∀ w, Calls Tryd.prog 20 #[xidV f g h] w fun e w' => e = .returned (.tuple #[.string tx, .int .i64 er]) ∧ Below w.heap.size w w') ∧ (mayX g h → tx = str8 (textX f g h) ∧ er = 0) ∧ (¬ mayX g h → er = 40) := by
  by_cases hm : mayX g h
  · exact ⟨_, 0, fun w => qtextX_ok f g h w hm hf, fun _ => ⟨rfl, rfl⟩, fun h => absurd hm h⟩
  · exact ⟨_, 40, fun w => qtextX_no f g h w hm hg hh, fun h => absurd h hm, fun _ => rfl⟩

/-- What the document's Parse tells. -/
def qparseD (l : List UInt8) : Nat × List UInt8 × List UInt8 :=
  let n := (sc1 0 0 l).1
  let k := (sc1 0 0 l).2
  let m := sc2 (k + 1) (l.drop (k + 1))
  let g := unhexD ((l.drop (k + 1)).take (m - (k + 1)))
  let h := unhexD (l.drop (m + 1))
  if n < 4294967296 ∧ m < l.length ∧ g.isSome = true ∧ h.isSome = true ∧ mayX (str8 (g.getD [])) (str8 (h.getD [])) ∧ textX n (str8 (g.getD [])) (str8 (h.getD [])) = l then (n, g.getD [], h.getD []) else (0, [], [])

set_option maxRecDepth 100000 in
set_option maxHeartbeats 4000000 in
theorem qparse_any (s : ByteArray) (w : World) (hs : s.size ≤ 140737488351232) :
    Calls Tryd.prog 24 #[.string s] w fun e w' => e = .returned (.tuple #[xidV (qparseD (sb s)).1 (str8 (qparseD (sb s)).2.1) (str8 (qparseD (sb s)).2.2), .int .i64 (if qparseD (sb s) = (0, [], []) then 5 else 0)]) ∧ Below w.heap.size w w' := by
  obtain ⟨D, hD⟩ : ∃ D, D = qparseD (sb s) := ⟨_, rfl⟩
  rw [← hD]
  have HD := Lib.hid hD
  clear hD
  obtain ⟨ans, ha⟩ : ∃ a : Int, a = if D = (0, [], []) then 5 else 0 := ⟨_, rfl⟩
  rw [← ha]
  have HA := Lib.hid ha
  clear ha
  obtain ⟨N0, k0, hX⟩ : ∃ N k, sc1 0 0 (sb s) = (N, k) := ⟨_, _, rfl⟩
  have HX := Lib.hid hX
  clear hX
  go_enter Tryd.func24, Tryd.ntmps24
  go_upto_block 0 with fail
  go_cut [4, 5] (fun a b wx => a = .int .u64 N0 ∧ b = .int .i64 k0 ∧ k0 ≤ s.size ∧ N0 < 42949672970 ∧ wx = w.alloc (Obj.cells #[.int .u32 (0 : Nat), .string ⟨#[]⟩, .string ⟨#[]⟩] 24))
  case first =>
    go_wp2_with fail
    go_loop [4, 5] (fun a b => ∃ N k : Nat, a = .int .u64 N ∧ b = .int .i64 k ∧ sc1 N k ((sb s).drop k) = (N0, k0) ∧ k ≤ s.size ∧ N < 42949672970) (fun _ b => s.size - (intOf b).toNat)
    case atStart => exact ⟨0, 0, rfl, rfl, HX.out, by omega, by omega⟩
    case round =>
      obtain ⟨N, k, rfl, rfl, hsc, hk, hN⟩ := hrel
      by_cases hlt : k < s.size
      · have b1 : (k : Int) < (s.size : Int) := by omega
        have hc8 := (s[k]'hlt).toNat_lt
        by_cases h48 : 48 ≤ (s[k]'hlt).toNat
        · have t48 : decide ((48 : Int) ≤ ((s[k]'hlt).toNat : Int)) = true := by simp; omega
          by_cases h57 : (s[k]'hlt).toNat ≤ 57
          · have t57 : decide (((s[k]'hlt).toNat : Int) ≤ 57) = true := by simp; omega
            by_cases hn : N < 4294967296
            · have tn : decide ((N : Int) < 4294967296) = true := by simp; omega
              have HST := Lib.hid ((sc1_go N k s hlt ⟨h48, h57, hn⟩).symm.trans hsc)
              have q1 : IntKind.u8.wrap (((s[k]'hlt).toNat : Int) - 48) = ((s[k]'hlt).toNat : Int) - 48 := by rw [IntKind.wrap_u8]; omega
              have q2 : IntKind.u64.wrap (10 * (N : Int)) = 10 * (N : Int) := by rw [IntKind.wrap_u64]; omega
              have q3 : IntKind.u64.wrap (((s[k]'hlt).toNat : Int) - 48) = ((s[k]'hlt).toNat : Int) - 48 := by rw [IntKind.wrap_u64]; omega
              have q4 : IntKind.u64.wrap (10 * (N : Int) + (((s[k]'hlt).toNat : Int) - 48)) = 10 * (N : Int) + (((s[k]'hlt).toNat : Int) - 48) := by rw [IntKind.wrap_u64]; omega
              have HN := Lib.hid (show ((10 * N + ((s[k]'hlt).toNat - 48) : Nat) : Int) = 10 * (N : Int) + (((s[k]'hlt).toNat : Int) - 48) by omega)
              have HB := Lib.hid (show 10 * N + ((s[k]'hlt).toNat - 48) < 42949672970 by omega)
              clear hsc h48 h57 hn hN
              go_wp2_with fail
              go_round
              case rel => exact ⟨_, k + 1, by rw [HN.out], by go_num, HST.out, by omega, HB.out⟩
              case measure => simp [intOf]; omega
            · have tn : decide ((N : Int) < 4294967296) = false := by simp; omega
              obtain ⟨rfl, rfl⟩ := Prod.mk.inj ((sc1_stop N k s hlt (by omega)).symm.trans hsc)
              clear hsc
              go_wp2_with fail
              go_meet
              exact ⟨rfl, rfl, hk, hN, rfl⟩
          · have t57 : decide (((s[k]'hlt).toNat : Int) ≤ 57) = false := by simp; omega
            obtain ⟨rfl, rfl⟩ := Prod.mk.inj ((sc1_stop N k s hlt (by omega)).symm.trans hsc)
            clear hsc
            go_wp2_with fail
            go_meet
            exact ⟨rfl, rfl, hk, hN, rfl⟩
        · have t48 : decide ((48 : Int) ≤ ((s[k]'hlt).toNat : Int)) = false := by simp; omega
          obtain ⟨rfl, rfl⟩ := Prod.mk.inj ((sc1_stop N k s hlt (by omega)).symm.trans hsc)
          clear hsc
          go_wp2_with fail
          go_meet
          exact ⟨rfl, rfl, hk, hN, rfl⟩
      · have b1 : decide ((k : Int) < (s.size : Int)) = false := by simp; omega
        obtain ⟨rfl, rfl⟩ := Prod.mk.inj ((sc1_end N k s hlt).symm.trans hsc)
        clear hsc
        go_wp2_with fail
        go_meet
        exact ⟨rfl, rfl, hk, hN, rfl⟩
  case rest =>
    intros
    obtain ⟨rfl, rfl, hk0, hN0, rfl⟩ := hcut
    have HX0 := Lib.hid (Boxed.new (f := 0) (g := ⟨#[]⟩) (h := ⟨#[]⟩) w)
    have hw1 : Below w.heap.size w (w.alloc (Obj.cells #[.int .u32 (0 : Nat), .string ⟨#[]⟩, .string ⟨#[]⟩] 24)) := below_box w _
    generalize w.alloc (Obj.cells #[.int .u32 (0 : Nat), .string ⟨#[]⟩, .string ⟨#[]⟩] 24) = W at *
    obtain ⟨m0, hM⟩ : ∃ m, sc2 (k0 + 1) ((sb s).drop (k0 + 1)) = m := ⟨_, rfl⟩
    have HM := Lib.hid hM
    clear hM
    go_upto_block 2 with fail
    go_cut [6] (fun a wx => a = .int .i64 m0 ∧ k0 + 1 ≤ m0 ∧ m0 ≤ s.size + 1 ∧ wx = W)
    case first =>
      go_wp2_with fail
      go_loop [6] (fun a => ∃ k : Nat, a = .int .i64 k ∧ sc2 k ((sb s).drop k) = m0 ∧ k0 + 1 ≤ k ∧ k ≤ s.size + 1) (fun a => s.size + 1 - (intOf a).toNat)
      case atStart => exact ⟨k0 + 1, by go_num, HM.out, by omega, by omega⟩
      case round =>
        obtain ⟨k, rfl, hsc, hk1, hk2⟩ := hrel
        by_cases hlt : k < s.size
        · have b1 : (k : Int) < (s.size : Int) := by omega
          have hc8 := (s[k]'hlt).toNat_lt
          by_cases h46 : (s[k]'hlt).toNat = 46
          · have t46 : (((s[k]'hlt).toNat : Int) != 46) = false := by simp; omega
            obtain rfl := (sc2_stop k s hlt h46).symm.trans hsc
            clear hsc h46
            go_wp2_with fail
            go_meet
            exact ⟨rfl, hk1, hk2, rfl⟩
          · have t46 : (((s[k]'hlt).toNat : Int) != 46) = true := by simp; omega
            have HST := Lib.hid ((sc2_go k s hlt h46).symm.trans hsc)
            clear hsc h46
            go_wp2_with fail
            go_round
            case rel => exact ⟨k + 1, by go_num, HST.out, by omega, by omega⟩
            case measure => simp [intOf]; omega
        · have b1 : decide ((k : Int) < (s.size : Int)) = false := by simp; omega
          obtain rfl := (sc2_end k s hlt).symm.trans hsc
          clear hsc
          go_wp2_with fail
          go_meet
          exact ⟨rfl, hk1, hk2, rfl⟩
    case rest =>
      intros
      obtain ⟨rfl, hm1, hm2, rfl⟩ := hcut
      by_cases hn : N0 < 4294967296
      case neg =>
        have tn : (4294967296 : Int) ≤ (N0 : Int) := by omega
        have HZ : Hid (D = (0, [], [])) := Lib.hid (by rw [HD.out]; unfold qparseD; simp only [HX.out]; rw [if_neg (fun h => hn h.1)])
        have HX2 := HX0
        have hw2 := hw1
        have hX2 := HX2.out
        have x0 := hX2.c0
        have x1 := hX2.c1
        have x2 := hX2.c2
        have f0 := hX2.froz 0
        have f1 := hX2.froz 1
        have f2 := hX2.froz 2
        have r5 := heap_setCell_same wc w.heap.size 0 _ 24 (.int .u32 0) hX2
        have r6 := heap_setCell_same _ w.heap.size 1 _ 24 (.string ⟨#[]⟩) r5
        have r7 := heap_setCell_same _ w.heap.size 2 _ 24 (.string ⟨#[]⟩) r6
        have HR := Lib.hid r7
        clear r5 r6 r7 hX2
        go_wp2_with fail
        (try simp only [Exit.inBlock, Exit.then])
        exact bodyPost_ret (results_cellt rfl _ _ w.heap.size 24 _ (0, 0) _ rfl HR.out Tryd.underlying24 rfl (by kernel_rfl)) rfl ⟨by rw [HA.out, HZ.out]; rfl, below_set (below_set (below_set hw2 (Nat.le_refl _) _) (Nat.le_refl _) _) (Nat.le_refl _) _⟩
      case pos =>
        have tn : decide ((4294967296 : Int) ≤ (N0 : Int)) = false := by simp; omega
        by_cases hmm : m0 < s.size
        case neg =>
          have tm : (s.size : Int) ≤ (m0 : Int) := by omega
          have HZ : Hid (D = (0, [], [])) := Lib.hid (by rw [HD.out]; unfold qparseD; simp only [HX.out, HM.out]; rw [if_neg (fun h => hmm (by have := h.2.1; rw [sb_length] at this; exact this))])
          have HX2 := HX0
          have hw2 := hw1
          have hX2 := HX2.out
          have x0 := hX2.c0
          have x1 := hX2.c1
          have x2 := hX2.c2
          have f0 := hX2.froz 0
          have f1 := hX2.froz 1
          have f2 := hX2.froz 2
          have r5 := heap_setCell_same wc w.heap.size 0 _ 24 (.int .u32 0) hX2
          have r6 := heap_setCell_same _ w.heap.size 1 _ 24 (.string ⟨#[]⟩) r5
          have r7 := heap_setCell_same _ w.heap.size 2 _ 24 (.string ⟨#[]⟩) r6
          have HR := Lib.hid r7
          clear r5 r6 r7 hX2
          go_wp2_with fail
          (try simp only [Exit.inBlock, Exit.then])
          exact bodyPost_ret (results_cellt rfl _ _ w.heap.size 24 _ (0, 0) _ rfl HR.out Tryd.underlying24 rfl (by kernel_rfl)) rfl ⟨by rw [HA.out, HZ.out]; rfl, below_set (below_set (below_set hw2 (Nat.le_refl _) _) (Nat.le_refl _) _) (Nat.le_refl _) _⟩
        case pos =>
          have tm : decide ((s.size : Int) ≤ (m0 : Int)) = false := by simp; omega
          have tk : (k0 : Int) + 1 ≤ (m0 : Int) := by omega
          have tm2 : (m0 : Int) ≤ (s.size : Int) := by omega
          have tm3 : (m0 : Int) + 1 ≤ (s.size : Int) := by omega
          have hz1 : (s.extract (k0 + 1) m0).size ≤ s.size := by rw [ByteArray.size_extract]; omega
          have hz2 : (s.extract (m0 + 1) s.size).size ≤ s.size := by rw [ByteArray.size_extract]; omega
          have hu1 := fun w => qunhex_any (s.extract (k0 + 1) m0) w (by omega)
          have hu2 := fun w => qunhex_any (s.extract (m0 + 1) s.size) w (by omega)
          obtain ⟨G, hG⟩ : ∃ G, unhexD (sb (s.extract (k0 + 1) m0)) = G := ⟨_, rfl⟩
          obtain ⟨H, hH⟩ : ∃ H, unhexD (sb (s.extract (m0 + 1) s.size)) = H := ⟨_, rfl⟩
          have hgl := unhexD_len _ (sb (s.extract (k0 + 1) m0)) (Nat.le_refl _)
          have hhl := unhexD_len _ (sb (s.extract (m0 + 1) s.size)) (Nat.le_refl _)
          rw [hG] at hu1 hgl
          rw [hH] at hu2 hhl
          rw [sb_length] at hgl hhl
          have hDe : D = if N0 < 4294967296 ∧ m0 < (sb s).length ∧ G.isSome = true ∧ H.isSome = true ∧ mayX (str8 (G.getD [])) (str8 (H.getD [])) ∧ textX N0 (str8 (G.getD [])) (str8 (H.getD [])) = sb s then (N0, G.getD [], H.getD []) else (0, [], []) := by
            rw [HD.out]
            unfold qparseD
            simp only [HX.out, HM.out]
            rw [← hG, ← hH, sb_extract, sb_extract, List.take_of_length_le (l := (sb s).drop (m0 + 1)) (by rw [List.length_drop, sb_length]; omega)]
          obtain ⟨tx, er, hT, hty, htn⟩ := qtextX_both N0 (str8 (G.getD [])) (str8 (H.getD [])) hn (by rw [str8_size]; omega) (by rw [str8_size]; omega)
          have HU1 := Lib.hid hu1
          have HU2 := Lib.hid hu2
          have wr1 : IntKind.u32.wrap (N0 : Int) = (N0 : Int) := by rw [IntKind.wrap_u32]; omega
          have HWR := Lib.hid wr1
          clear hu1 hu2 hgl hhl hz1 hz2 wr1 hG hH hk0 hN0 hm1 hm2 hmm
          obtain ⟨gB, hgB⟩ : ∃ g, str8 (G.getD []) = g := ⟨_, rfl⟩
          obtain ⟨hB, hhB⟩ : ∃ h, str8 (H.getD []) = h := ⟨_, rfl⟩
          rw [hgB] at HU1
          rw [hhB] at HU2
          rw [hgB, hhB] at hDe hT hty htn
          unfold xidV at hT
          have HT := Lib.hid hT
          have HgB := Lib.hid hgB
          have HhB := Lib.hid hhB
          clear hT hgB hhB
          by_cases cG : G.isSome = true
          case neg =>
            have HZ : Hid (D = (0, [], [])) := Lib.hid (by rw [hDe, if_neg (fun h => cG h.2.2.1)])
            rw [show G.isSome = false by simpa using cG] at HU1
            clear hDe hty htn cG
            go_wp2_with fail
            refine (HU1.out _).mono ?_
            rintro e w1 ⟨rfl, hb1⟩
            have hw2 := hw1.trans (hb1.mono hw1.size)
            have hX1 := HX0.out.below hb1 HX0.out.lt
            go_wp2_with fail
            refine (HU2.out _).mono ?_
            rintro e w2 ⟨rfl, hb2⟩
            have hw3 := hw2.trans (hb2.mono hw2.size)
            have hX2 := hX1.below hb2 hX1.lt
            have wr1 := HWR.out
            go_wp2_with fail
            have hA4 : Boxed (w2.alloc (Obj.cells #[.int .u32 N0, .string gB, .string hB] 24)) w2.heap.size N0 gB hB := Boxed.new w2
            have hX4 := hX2.keep (Below.heap_alloc w2 (Obj.cells #[.int .u32 N0, .string gB, .string hB] 24) _ hX2.lt)
            have hw4 := hw3.alloc hw3.size (Obj.cells #[.int .u32 N0, .string gB, .string hB] 24)
            have hne := hX2.lt
            generalize w2.alloc (Obj.cells #[.int .u32 N0, .string gB, .string hB] 24) = w4 at *
            generalize w2.heap.size = X at *
            clear wr1 hb1 hb2 hX1 hX2 hw2 hw3
            have y0 := hA4.c0
            have y1 := hA4.c1
            have y2 := hA4.c2
            go_wp2_with fail
            refine (HT.out _).mono ?_
            rintro e w5 ⟨rfl, hb5⟩
            have hA5 := hA4.below hb5 hA4.lt
            have hX5 := hX4.below hb5 hX4.lt
            have hw5 := hw4.trans (hb5.mono hw4.size)
            clear y0 y1 y2 hb5 hA4 hX4 hw4
            have y0 := hA5.c0
            have y1 := hA5.c1
            have y2 := hA5.c2
            have x0 := hX5.c0
            have x1 := hX5.c1
            have x2 := hX5.c2
            have f0 := hX5.froz 0
            have f1 := hX5.froz 1
            have f2 := hX5.froz 2
            have hne2 : X ≠ w.heap.size := by omega
            have r5 := heap_setCell_same w5 w.heap.size 0 _ 24 (.int .u32 (0 : Nat)) hX5
            have r6 := heap_setCell_same _ w.heap.size 1 _ 24 (.string ⟨#[]⟩) r5
            have r7 := heap_setCell_same _ w.heap.size 2 _ 24 (.string ⟨#[]⟩) r6
            have HR := Lib.hid r7
            clear r5 r6 r7 hX5 hA5
            go_wp2_with fail
            (try simp only [Exit.inBlock, Exit.then])
            exact bodyPost_ret (results_cellt rfl _ _ w.heap.size 24 _ (0, 0) _ rfl HR.out Tryd.underlying24 rfl (by kernel_rfl)) rfl ⟨by rw [HA.out, HZ.out]; rfl, below_set (below_set (below_set hw5 (Nat.le_refl _) _) (Nat.le_refl _) _) (Nat.le_refl _) _⟩
          case pos =>
            rw [cG] at HU1
            by_cases cH : H.isSome = true
            case neg =>
              have HZ : Hid (D = (0, [], [])) := Lib.hid (by rw [hDe, if_neg (fun h => cH h.2.2.2.1)])
              rw [show H.isSome = false by simpa using cH] at HU2
              clear hDe hty htn cG cH
              go_wp2_with fail
              refine (HU1.out _).mono ?_
              rintro e w1 ⟨rfl, hb1⟩
              have hw2 := hw1.trans (hb1.mono hw1.size)
              have hX1 := HX0.out.below hb1 HX0.out.lt
              go_wp2_with fail
              refine (HU2.out _).mono ?_
              rintro e w2 ⟨rfl, hb2⟩
              have hw3 := hw2.trans (hb2.mono hw2.size)
              have hX2 := hX1.below hb2 hX1.lt
              have wr1 := HWR.out
              go_wp2_with fail
              have hA4 : Boxed (w2.alloc (Obj.cells #[.int .u32 N0, .string gB, .string hB] 24)) w2.heap.size N0 gB hB := Boxed.new w2
              have hX4 := hX2.keep (Below.heap_alloc w2 (Obj.cells #[.int .u32 N0, .string gB, .string hB] 24) _ hX2.lt)
              have hw4 := hw3.alloc hw3.size (Obj.cells #[.int .u32 N0, .string gB, .string hB] 24)
              have hne := hX2.lt
              generalize w2.alloc (Obj.cells #[.int .u32 N0, .string gB, .string hB] 24) = w4 at *
              generalize w2.heap.size = X at *
              clear wr1 hb1 hb2 hX1 hX2 hw2 hw3
              have y0 := hA4.c0
              have y1 := hA4.c1
              have y2 := hA4.c2
              go_wp2_with fail
              refine (HT.out _).mono ?_
              rintro e w5 ⟨rfl, hb5⟩
              have hA5 := hA4.below hb5 hA4.lt
              have hX5 := hX4.below hb5 hX4.lt
              have hw5 := hw4.trans (hb5.mono hw4.size)
              clear y0 y1 y2 hb5 hA4 hX4 hw4
              have y0 := hA5.c0
              have y1 := hA5.c1
              have y2 := hA5.c2
              have x0 := hX5.c0
              have x1 := hX5.c1
              have x2 := hX5.c2
              have f0 := hX5.froz 0
              have f1 := hX5.froz 1
              have f2 := hX5.froz 2
              have hne2 : X ≠ w.heap.size := by omega
              have r5 := heap_setCell_same w5 w.heap.size 0 _ 24 (.int .u32 (0 : Nat)) hX5
              have r6 := heap_setCell_same _ w.heap.size 1 _ 24 (.string ⟨#[]⟩) r5
              have r7 := heap_setCell_same _ w.heap.size 2 _ 24 (.string ⟨#[]⟩) r6
              have HR := Lib.hid r7
              clear r5 r6 r7 hX5 hA5
              go_wp2_with fail
              (try simp only [Exit.inBlock, Exit.then])
              exact bodyPost_ret (results_cellt rfl _ _ w.heap.size 24 _ (0, 0) _ rfl HR.out Tryd.underlying24 rfl (by kernel_rfl)) rfl ⟨by rw [HA.out, HZ.out]; rfl, below_set (below_set (below_set hw5 (Nat.le_refl _) _) (Nat.le_refl _) _) (Nat.le_refl _) _⟩
            case pos =>
              rw [cH] at HU2
              by_cases cM : mayX gB hB
              case neg =>
                have HZ : Hid (D = (0, [], [])) := Lib.hid (by rw [hDe, if_neg (fun h => cM h.2.2.2.2.1)])
                obtain rfl := htn cM
                clear hDe hty htn cG cH cM
                go_wp2_with fail
                refine (HU1.out _).mono ?_
                rintro e w1 ⟨rfl, hb1⟩
                have hw2 := hw1.trans (hb1.mono hw1.size)
                have hX1 := HX0.out.below hb1 HX0.out.lt
                go_wp2_with fail
                refine (HU2.out _).mono ?_
                rintro e w2 ⟨rfl, hb2⟩
                have hw3 := hw2.trans (hb2.mono hw2.size)
                have hX2 := hX1.below hb2 hX1.lt
                have wr1 := HWR.out
                go_wp2_with fail
                have hA4 : Boxed (w2.alloc (Obj.cells #[.int .u32 N0, .string gB, .string hB] 24)) w2.heap.size N0 gB hB := Boxed.new w2
                have hX4 := hX2.keep (Below.heap_alloc w2 (Obj.cells #[.int .u32 N0, .string gB, .string hB] 24) _ hX2.lt)
                have hw4 := hw3.alloc hw3.size (Obj.cells #[.int .u32 N0, .string gB, .string hB] 24)
                have hne := hX2.lt
                generalize w2.alloc (Obj.cells #[.int .u32 N0, .string gB, .string hB] 24) = w4 at *
                generalize w2.heap.size = X at *
                clear wr1 hb1 hb2 hX1 hX2 hw2 hw3
                have y0 := hA4.c0
                have y1 := hA4.c1
                have y2 := hA4.c2
                go_wp2_with fail
                refine (HT.out _).mono ?_
                rintro e w5 ⟨rfl, hb5⟩
                have hA5 := hA4.below hb5 hA4.lt
                have hX5 := hX4.below hb5 hX4.lt
                have hw5 := hw4.trans (hb5.mono hw4.size)
                clear y0 y1 y2 hb5 hA4 hX4 hw4
                have y0 := hA5.c0
                have y1 := hA5.c1
                have y2 := hA5.c2
                have x0 := hX5.c0
                have x1 := hX5.c1
                have x2 := hX5.c2
                have f0 := hX5.froz 0
                have f1 := hX5.froz 1
                have f2 := hX5.froz 2
                have hne2 : X ≠ w.heap.size := by omega
                have r5 := heap_setCell_same w5 w.heap.size 0 _ 24 (.int .u32 (0 : Nat)) hX5
                have r6 := heap_setCell_same _ w.heap.size 1 _ 24 (.string ⟨#[]⟩) r5
                have r7 := heap_setCell_same _ w.heap.size 2 _ 24 (.string ⟨#[]⟩) r6
                have HR := Lib.hid r7
                clear r5 r6 r7 hX5 hA5
                go_wp2_with fail
                (try simp only [Exit.inBlock, Exit.then])
                exact bodyPost_ret (results_cellt rfl _ _ w.heap.size 24 _ (0, 0) _ rfl HR.out Tryd.underlying24 rfl (by kernel_rfl)) rfl ⟨by rw [HA.out, HZ.out]; rfl, below_set (below_set (below_set hw5 (Nat.le_refl _) _) (Nat.le_refl _) _) (Nat.le_refl _) _⟩
              case pos =>
                obtain ⟨rfl, rfl⟩ := hty cM
                by_cases cT : textX N0 gB hB = sb s
                case neg =>
                  have HZ : Hid (D = (0, [], [])) := Lib.hid (by rw [hDe, if_neg (fun h => cT h.2.2.2.2.2)])
                  have tne : ¬ (str8 (textX N0 gB hB)).toList = s.toList := by rw [sb_toList, sb_toList]; exact cT
                  have tne2 : (!(str8 (textX N0 gB hB)).toList == s.toList) = true := by simpa using tne
                  clear hDe hty htn cG cH cM cT
                  generalize str8 (textX N0 gB hB) = tx at *
                  go_wp2_with fail
                  refine (HU1.out _).mono ?_
                  rintro e w1 ⟨rfl, hb1⟩
                  have hw2 := hw1.trans (hb1.mono hw1.size)
                  have hX1 := HX0.out.below hb1 HX0.out.lt
                  go_wp2_with fail
                  refine (HU2.out _).mono ?_
                  rintro e w2 ⟨rfl, hb2⟩
                  have hw3 := hw2.trans (hb2.mono hw2.size)
                  have hX2 := hX1.below hb2 hX1.lt
                  have wr1 := HWR.out
                  go_wp2_with fail
                  have hA4 : Boxed (w2.alloc (Obj.cells #[.int .u32 N0, .string gB, .string hB] 24)) w2.heap.size N0 gB hB := Boxed.new w2
                  have hX4 := hX2.keep (Below.heap_alloc w2 (Obj.cells #[.int .u32 N0, .string gB, .string hB] 24) _ hX2.lt)
                  have hw4 := hw3.alloc hw3.size (Obj.cells #[.int .u32 N0, .string gB, .string hB] 24)
                  have hne := hX2.lt
                  generalize w2.alloc (Obj.cells #[.int .u32 N0, .string gB, .string hB] 24) = w4 at *
                  generalize w2.heap.size = X at *
                  clear wr1 hb1 hb2 hX1 hX2 hw2 hw3
                  have y0 := hA4.c0
                  have y1 := hA4.c1
                  have y2 := hA4.c2
                  go_wp2_with fail
                  refine (HT.out _).mono ?_
                  rintro e w5 ⟨rfl, hb5⟩
                  have hA5 := hA4.below hb5 hA4.lt
                  have hX5 := hX4.below hb5 hX4.lt
                  have hw5 := hw4.trans (hb5.mono hw4.size)
                  clear y0 y1 y2 hb5 hA4 hX4 hw4
                  have y0 := hA5.c0
                  have y1 := hA5.c1
                  have y2 := hA5.c2
                  have x0 := hX5.c0
                  have x1 := hX5.c1
                  have x2 := hX5.c2
                  have f0 := hX5.froz 0
                  have f1 := hX5.froz 1
                  have f2 := hX5.froz 2
                  have hne2 : X ≠ w.heap.size := by omega
                  have r5 := heap_setCell_same w5 w.heap.size 0 _ 24 (.int .u32 (0 : Nat)) hX5
                  have r6 := heap_setCell_same _ w.heap.size 1 _ 24 (.string ⟨#[]⟩) r5
                  have r7 := heap_setCell_same _ w.heap.size 2 _ 24 (.string ⟨#[]⟩) r6
                  have HR := Lib.hid r7
                  clear r5 r6 r7 hX5 hA5
                  go_wp2_with fail
                  (try simp only [Exit.inBlock, Exit.then])
                  exact bodyPost_ret (results_cellt rfl _ _ w.heap.size 24 _ (0, 0) _ rfl HR.out Tryd.underlying24 rfl (by kernel_rfl)) rfl ⟨by rw [HA.out, HZ.out]; rfl, below_set (below_set (below_set hw5 (Nat.le_refl _) _) (Nat.le_refl _) _) (Nat.le_refl _) _⟩
                case pos =>
                  have hD2 : D = (N0, G.getD [], H.getD []) := by rw [hDe, if_pos ⟨hn, by rw [sb_length]; omega, cG, cH, cM, cT⟩]
                  have hne0 : (N0, G.getD [], H.getD []) ≠ ((0 : Nat), ([] : List UInt8), ([] : List UInt8)) := fun e => by
                    simp only [Prod.mk.injEq] at e
                    have := cM.1
                    rw [← HgB.out, e.2.1] at this
                    rw [str8_size] at this
                    simp at this
                  rw [show str8 (textX N0 gB hB) = s by rw [cT]; exact str8_sb s] at HT
                  have HD2 := Lib.hid hD2
                  have HNE := Lib.hid hne0
                  clear hDe hty htn cG cH cM cT hD2 hne0
                  go_wp2_with fail
                  refine (HU1.out _).mono ?_
                  rintro e w1 ⟨rfl, hb1⟩
                  have hw2 := hw1.trans (hb1.mono hw1.size)
                  have hX1 := HX0.out.below hb1 HX0.out.lt
                  go_wp2_with fail
                  refine (HU2.out _).mono ?_
                  rintro e w2 ⟨rfl, hb2⟩
                  have hw3 := hw2.trans (hb2.mono hw2.size)
                  have hX2 := hX1.below hb2 hX1.lt
                  have wr1 := HWR.out
                  go_wp2_with fail
                  have hA4 : Boxed (w2.alloc (Obj.cells #[.int .u32 N0, .string gB, .string hB] 24)) w2.heap.size N0 gB hB := Boxed.new w2
                  have hX4 := hX2.keep (Below.heap_alloc w2 (Obj.cells #[.int .u32 N0, .string gB, .string hB] 24) _ hX2.lt)
                  have hw4 := hw3.alloc hw3.size (Obj.cells #[.int .u32 N0, .string gB, .string hB] 24)
                  have hne := hX2.lt
                  generalize w2.alloc (Obj.cells #[.int .u32 N0, .string gB, .string hB] 24) = w4 at *
                  generalize w2.heap.size = X at *
                  clear wr1 hb1 hb2 hX1 hX2 hw2 hw3
                  have y0 := hA4.c0
                  have y1 := hA4.c1
                  have y2 := hA4.c2
                  go_wp2_with fail
                  refine (HT.out _).mono ?_
                  rintro e w5 ⟨rfl, hb5⟩
                  have hA5 := hA4.below hb5 hA4.lt
                  have hX5 := hX4.below hb5 hX4.lt
                  have hw5 := hw4.trans (hb5.mono hw4.size)
                  clear y0 y1 y2 hb5 hA4 hX4 hw4
                  have y0 := hA5.c0
                  have y1 := hA5.c1
                  have y2 := hA5.c2
                  have x0 := hX5.c0
                  have x1 := hX5.c1
                  have x2 := hX5.c2
                  have f0 := hX5.froz 0
                  have f1 := hX5.froz 1
                  have f2 := hX5.froz 2
                  have hne2 : X ≠ w.heap.size := by omega
                  have r5 := heap_setCell_same w5 w.heap.size 0 _ 24 (.int .u32 (N0 : Nat)) hX5
                  have r6 := heap_setCell_same _ w.heap.size 1 _ 24 (.string gB) r5
                  have r7 := heap_setCell_same _ w.heap.size 2 _ 24 (.string hB) r6
                  have HR := Lib.hid r7
                  clear r5 r6 r7 hX5 hA5
                  go_wp2_with fail
                  (try simp only [Exit.inBlock, Exit.then])
                  exact bodyPost_ret (results_cellt rfl _ _ w.heap.size 24 _ (0, 0) _ rfl HR.out Tryd.underlying24 rfl (by kernel_rfl)) rfl ⟨by rw [HA.out, HD2.out, if_neg HNE.out, ← HgB.out, ← HhB.out]; rfl, below_set (below_set (below_set hw5 (Nat.le_refl _) _) (Nat.le_refl _) _) (Nat.le_refl _) _⟩

end Go.Proofs.YtalcfglcbpkebaaDoor
