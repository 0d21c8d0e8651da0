/-
  The contract of the document's Unhex of names.
  Conditions: at most 2^40 signs.
-/
import Derived.Test.YtalcfglcbpkebaaDoorRef04C
import Derived.BigQuiet
import Derived.Deep.RegionWith
namespace Go.Proofs.YtalcfglcbpkebaaDoor
open Go.RowKit
set_option linter.unusedVariables false
set_option linter.unusedSimpArgs false

/-- Signs as bytes; none: they are none's. -/
def unhexD : List UInt8 → Option (List UInt8)
  | [] => some []
  | [_] => none
  | a :: b :: l => if 15 < numD a.toNat ∨ 15 < numD b.toNat then none else (unhexD l).map (UInt8.ofNat (16 * numD a.toNat + numD b.toNat) :: ·)
theorem numD_le (c : Nat) : numD c ≤ 16 := by unfold numD; repeat' split
                                              all_goals omega
/-- What was read of the signs so far: k pairs. -/
def pairsD : Nat → List UInt8 → List UInt8
  | 0, _ => []
  | k + 1, a :: b :: l => UInt8.ofNat (16 * numD a.toNat + numD b.toNat) :: pairsD k l
  | _ + 1, _ => []
theorem unhexD_odd : ∀ (n : Nat) (l : List UInt8), l.length = n → n % 2 ≠ 0 → unhexD l = none
  | _, [], h, h2 => absurd h (by simp; omega)
  | _, [_], _, _ => rfl
  | n, a :: b :: l, h, h2 => by
    rw [unhexD]
    split
    · rfl
    · rw [unhexD_odd (n - 2) l (by simp at h; omega) (by simp at h; omega)]; rfl
theorem pairsD_length : ∀ (k : Nat) (l : List UInt8), 2 * k ≤ l.length → (pairsD k l).length = k
  | 0, _, _ => rfl
  | k + 1, [], h => absurd h (by simp)
  | k + 1, [_], h => absurd h (by simp; omega)
  | k + 1, a :: b :: l, h => by rw [pairsD, List.length_cons, pairsD_length k l (by simp at h; omega)]
theorem pairsD_succ : ∀ (k : Nat) (l : List UInt8) (h : 2 * k + 1 < l.length), pairsD (k + 1) l = pairsD k l ++ [UInt8.ofNat (16 * numD l[2 * k].toNat + numD l[2 * k + 1].toNat)]
  | 0, a :: b :: l, _ => rfl
  | k + 1, a :: b :: l, h => by
    rw [pairsD, pairsD_succ k l (by simp at h; omega), pairsD]
    rfl
  | 0, [_], h => absurd h (by simp)
  | k + 1, [_], h => absurd h (by simp)
  | _, [], h => absurd h (by simp)
/-- Each of the first k pairs is a byte. -/
def okD (k : Nat) (l : List UInt8) : Prop := ∀ j (h : j < l.length), j < 2 * k → numD l[j].toNat ≤ 15
theorem unhexD_all : ∀ (k : Nat) (l : List UInt8), l.length = 2 * k → okD k l → unhexD l = some (pairsD k l)
  | 0, [], _, _ => rfl
  | 0, _ :: _, h, _ => absurd h (by simp)
  | k + 1, [], h, _ => absurd h (by simp)
  | k + 1, [_], h, _ => absurd h (by simp; omega)
  | k + 1, a :: b :: l, h, ho => by
    have h0 := ho 0 (by simp) (by omega)
    have h1 := ho 1 (by simp) (by omega)
    rw [unhexD, if_neg (by simp at h0 h1; omega), unhexD_all k l (by simp at h; omega) (fun j hj hk => by
      have := ho (j + 2) (by simp; omega) (by omega)
      simpa using this), pairsD]
    rfl
theorem unhexD_bad : ∀ (n : Nat) (l : List UInt8) (j : Nat) (h : j < l.length), l.length = n → 15 < numD l[j].toNat → unhexD l = none
  | _, [], _, h, _, _ => absurd h (by simp)
  | _, [_], _, _, _, _ => rfl
  | n, a :: b :: l, j, h, hn, hb => by
    rw [unhexD]
    split
    · rfl
    · rename_i hc
      match j, h, hb with
      | 0, _, hb => exact absurd (.inl hb) hc
      | 1, _, hb => exact absurd (.inr hb) hc
      | j + 2, h, hb => rw [unhexD_bad (n - 2) l j (by simp at h; omega) (by simp at hn; omega) (by simpa using hb)]; rfl

theorem qunhex_odd (s : ByteArray) (w : World) (hs : s.size ≤ 140737488355328) (ho : s.size % 2 ≠ 0) :
    Calls Tryd.prog 48 #[.string s] w fun e w' => e = .returned (.tuple #[.string ByteArray.empty, .bool false]) ∧ Below w.heap.size w w' := by
  have ht : ((s.size : Int) % 2 != 0) = true := by simp; omega
  clear ho
  go_enter Tryd.func48, Tryd.ntmps48
  go_wp2_with fail
  go_ret2
  exact ⟨rfl, Below.refl _ _⟩

set_option maxHeartbeats 800000 in
theorem qunhex_even (s : ByteArray) (w : World) (hs : s.size ≤ 140737488355328) (ho : s.size % 2 = 0) :
    Calls Tryd.prog 48 #[.string s] w fun e w' => e = .returned (.tuple #[.string (str8 ((unhexD (sb s)).getD [])), .bool (unhexD (sb s)).isSome]) ∧ Below w.heap.size w w' := by
  have ht : ((s.size : Int) % 2 != 0) = false := by simp; omega
  obtain ⟨K, hK⟩ : ∃ K, s.size = 2 * K := ⟨s.size / 2, by omega⟩
  have HK := Lib.hid hK
  have hKb : K ≤ 140737488355328 := by omega
  clear ho hK
  go_enter Tryd.func48, Tryd.ntmps48
  go_wp2_with fail
  go_loopw [4, 5] (fun v i wr => ∃ k j : Nat, k ≤ K ∧ j = 2 * k ∧ i = .int .i64 j ∧ okD k (sb s) ∧ Own 5 wr w.heap.size v (pairsD k (sb s)) ∧ Below w.heap.size w wr) (fun _ i _ => s.size - (intOf i).toNat)
  case atStart => exact ⟨0, 0, by omega, rfl, rfl, fun j _ h => absurd h (by omega), Own.nil_ _ _ _, Below.refl _ _⟩
  case round =>
    obtain ⟨k, j, hk, hj, rfl, hok, ho, hbw⟩ := hrel
    have hK := HK.out
    by_cases h1 : k < K
    · have hj1 : j + 1 < s.size := by omega
      have hj0 : j < s.size := by omega
      have b1 : (j : Int) < (s.size : Int) := by omega
      have b2 : (j : Int) + 1 < (s.size : Int) := by omega
      have b4 : (0 : Int) ≤ (j : Int) + 1 := by omega
      have b3 : IntKind.i64.wrap ((j : Int) + 1) = (j : Int) + 1 := i64_id _ (by omega) (by omega)
      have hn1 := Lib.hid (fun w => qnumber_any s[j].toNat w s[j].toNat_lt)
      have hn2 := Lib.hid (fun w => qnumber_any s[j + 1].toNat w s[j + 1].toNat_lt)
      have HJ := Lib.hid hj
      have hlen : (sb s).length = s.size := sb_length s
      have e1 : (sb s)[j]'(by omega) = s[j] := rfl
      have e2 : (sb s)[j + 1]'(by omega) = s[j + 1] := rfl
      by_cases hb : 15 < numD s[j].toNat ∨ 15 < numD s[j + 1].toNat
      · have HU := Lib.hid (show unhexD (sb s) = none by
          rcases hb with hb | hb
          · exact unhexD_bad _ (sb s) j (by omega) rfl (by rw [e1]; exact hb)
          · exact unhexD_bad _ (sb s) (j + 1) (by omega) rfl (by rw [e2]; exact hb))
        clear e1 e2 hlen hok hj hK
        generalize numD s[j].toNat = x at *
        generalize numD s[j + 1].toNat = y at *
        by_cases hx : 15 < x
        case' pos => have t1 : decide ((15 : Int) < (x : Int)) = true := by simp; omega
        case' neg =>
          have t1 : decide ((15 : Int) < (x : Int)) = false := by simp; omega
          have t2 : decide ((15 : Int) < (y : Int)) = true := by simp; omega
        all_goals
          clear hb hx
          go_wp2_with fail
          go_quiet (first
            | (go_at_call 66; with_reducible exact Calls.quiet_of_same (hn1.out _))
            | (go_at_call 66; with_reducible exact Calls.quiet_of_same (hn2.out _)))
          go_wp2_with fail
          go_ret2
          exact ⟨by rw [HU.out]; rfl, below_drewN hbw _⟩
      · have HS := Lib.hid (show okD (k + 1) (sb s) from fun m hm hmk => by
          by_cases c1 : m < 2 * k
          · exact hok m hm c1
          · by_cases c2 : m = j
            · subst c2; rw [e1]; omega
            · obtain rfl : m = j + 1 := by omega
              rw [e2]; omega)
        have HP := Lib.hid (show pairsD (k + 1) (sb s) = pairsD k (sb s) ++ [UInt8.ofNat (16 * numD s[j].toNat + numD s[j + 1].toNat)] by
          subst hj
          exact pairsD_succ k (sb s) (by omega))
        have HL := Lib.hid (show (pairsD k (sb s)).length = k from pairsD_length k (sb s) (by omega))
        clear e1 e2 hlen hok hj hK
        generalize pairsD k (sb s) = row at *
        generalize numD s[j].toNat = x at *
        generalize numD s[j + 1].toNat = y at *
        have t1 : decide ((15 : Int) < (x : Int)) = false := by simp; omega
        have t2 : decide ((15 : Int) < (y : Int)) = false := by simp; omega
        have hxy : 16 * x + y < 256 := by omega
        have w1 : IntKind.u8.wrap (16 * (x : Int)) = 16 * (x : Int) := by rw [IntKind.wrap_u8]; omega
        have w2 : IntKind.u8.wrap (16 * (x : Int) + (y : Int)) = 16 * (x : Int) + (y : Int) := by rw [IntKind.wrap_u8]; omega
        have hlit : (#[Value.int IntKind.u8 (16 * (x : Int) + (y : Int))] : Array Value) = (bs [UInt8.ofNat (16 * x + y)]).toArray := by
          rw [← lit1 _ hxy]; simp
        have HLI := Lib.hid hlit
        clear hb hlit
        go_wp2_with fail
        go_quiet (first
          | (go_at_call 66; with_reducible exact Calls.quiet_of_same (hn1.out _))
          | (go_at_call 66; with_reducible exact Calls.quiet_of_same (hn2.out _)))
        have hok' : ∀ q o, Own 5 ((wr.drewN q).alloc o) w.heap.size u4 row := fun q o => ho.alloc8 o
        have HO := Lib.hid hok'
        clear hok'
        go_wp2_with (at_builtin
                     refine wpList_append8 _ rfl (.tmp 33) (.tmp 38) 31 rfl w.heap.size 5 Tryd.underlying31 info5 u4 row rfl (HO.out _ _) wr.heap.size (.slice (some ⟨wr.heap.size, 0, none⟩) 1 1) [UInt8.ofNat (16 * x + y)] rfl (Shows.lit (w := wr) [UInt8.ofNat (16 * x + y)] HLI.out (by simp [maxLen])) (by rw [HL.out]; simp; omega) (by have := hbw.size; simp; omega) ?_
                     intro v6 w6 ho6 hg6)
        have hb6 : Below w.heap.size w w6 := ((below_drewN hbw _).alloc hbw.size _).grown hg6 (by have := hbw.size; simp; omega) (fun q hq => (ho.block q hq).1)
        have hj := HJ.out
        go_roundw
        case rel => exact ⟨k + 1, j + 2, by omega, by omega, by go_num, HS.out, by rw [HP.out]; exact ho6, hb6⟩
        case measure => simp [intOf]; omega
    · obtain rfl : k = K := by omega
      have HU := Lib.hid (show unhexD (sb s) = some (pairsD k (sb s)) from unhexD_all k (sb s) (by rw [sb_length]; exact hK) hok)
      have b1 : decide (j < s.size) = false := by simp; omega
      obtain ⟨g, _, hsh⟩ := ho.shows
      have hcv := conv_at hsh
      clear hok hj hK
      go_wp2_with fail
      go_ret2
      exact ⟨by rw [HU.out]; rfl, hbw⟩

end Go.Proofs.YtalcfglcbpkebaaDoor
