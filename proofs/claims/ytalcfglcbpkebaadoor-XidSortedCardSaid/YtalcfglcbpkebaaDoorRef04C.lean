/-
  The contract of the document's Hex of names.
  Conditions: at most 2^40 bytes.
-/
import Derived.Test.YtalcfglcbpkebaaDoorRef04B
import Derived.Deep.RegionLaw
import Derived.Laws.BitsAllLaws
namespace Go.Proofs.YtalcfglcbpkebaaDoor
open Go.RowKit
set_option linter.unusedVariables false
set_option linter.unusedSimpArgs false

/-- Bytes as signs. -/
def hexD (l : List UInt8) : List UInt8 := l.flatMap fun b => [UInt8.ofNat (signD (b.toNat / 16)), UInt8.ofNat (signD (b.toNat % 16))]
theorem hexD_length (l : List UInt8) : (hexD l).length = 2 * l.length := by
  induction l with
  | nil => rfl
  | cons b l ih =>
    have : hexD (b :: l) = [UInt8.ofNat (signD (b.toNat / 16)), UInt8.ofNat (signD (b.toNat % 16))] ++ hexD l := rfl
    rw [this, List.length_append, ih]; simp; omega
theorem hexD_snoc (l : List UInt8) (b : UInt8) : hexD (l ++ [b]) = hexD l ++ [UInt8.ofNat (signD (b.toNat / 16)), UInt8.ofNat (signD (b.toNat % 16))] := by simp [hexD]
theorem lit2 (d e : Nat) (h : d < 256) (h2 : e < 256) : (#[Value.int IntKind.u8 d, Value.int IntKind.u8 e] : Array Value) = (bs [UInt8.ofNat d, UInt8.ofNat e]).toArray := by
  simp [bs, u8c, Nat.mod_eq_of_lt h, Nat.mod_eq_of_lt h2]

theorem Own.alloc8 {e : TypeId} {w : World} {base : Nat} {v : Value} {l : List UInt8} (h : Own e w base v l) (o : Obj) : Own e (w.alloc o) base v l :=
  h.keep fun g hg => Below.heap_alloc _ _ _ (h.block g hg).2
/-- 'append' of bytes at a step of a region that draws its order: for 'go_region_law'. -/
theorem step_append8 {P : Program} (w : World) {ops : Array Oper} {o : Oper} {a : Act} {K : Act → World → Prop} {Q : Exit → Act → World → Prop} {E : Prop} (hgd : o.guard = none) (s x : Operand) (t : TypeId)
    (ho : o.op = .call { callee := .builtin .append, args := #[s, x], argTypes := #[t, t] })
    (base : Nat) (e : TypeId) (ht : P.underlying t = some (.slice e)) (hi : (P.info? e).map (fun i => (i.zero, i.size, i.bytes)) = some (some (.int .u8 0), 1, 1))
    (v : Value) (l : List UInt8) (hs : a.eval s = v) (hown : Own e w base v l) (d : Nat) (y : Value) (m : List UInt8) (hx : a.eval x = y) (hm : Shows w d y m)
    (hb : l.length + m.length ≤ 140737488355328) (hbase : base ≤ w.heap.size)
    (h : ∀ v' w', Own e w' base v' (l ++ m) → w.grownBy w' v.ownBlock → K (a.put o.dst v') w') :
    if Region.wanted o (yielded ops a.tmps) = true then Oper.wp P o a w K Q else E := by
  have hw : Region.wanted o (yielded ops a.tmps) = true := by simp [Region.wanted, hgd]
  rw [if_pos hw]
  obtain ⟨i, hi0, hz, hs1, hb1⟩ := info_parts hi
  obtain ⟨v', w', hr, h2, h3⟩ := run_append_own8 (P := P) w base t o.type e i ht hi0 hz hs1 hb1 v l hown d y m hm hb hbase
  unfold Oper.wp execOp
  simp only [ho, resolve, invoke, builtin, Sem.run_bind, Sem.run_pure, Result.andThen_ok, List.map_toArray, List.map_cons, List.map_nil, hs, hx, hr]
  exact h v' w' h2 h3

set_option maxRecDepth 100000 in
theorem qhex_any (s : ByteArray) (w : World) (hs : s.size ≤ 1099511627776) :
    Calls Tryd.prog 38 #[.string s] w fun e w' => e = .returned (.string (str8 (hexD (sb s)))) ∧ Below w.heap.size w w' := by
  go_enter Tryd.func38, Tryd.ntmps38
  go_wp2_with fail
  go_loopw [3, 4] (fun v i wr => ∃ k : Nat, k ≤ s.size ∧ i = .int .i64 k ∧ Own 5 wr w.heap.size v (hexD ((sb s).take k)) ∧ Below w.heap.size w wr) (fun _ i _ => s.size - (intOf i).toNat)
  case atStart => exact ⟨0, by omega, rfl, by simpa [hexD] using Own.nil_ _ _ _, Below.refl _ _⟩
  case round =>
    obtain ⟨k, hk, rfl, ho, hbw⟩ := hrel
    by_cases h1 : k < s.size
    · have b1 : (k : Int) < (s.size : Int) := by omega
      have hx := s[k].toNat_lt
      have hst : hexD ((sb s).take (k + 1)) = hexD ((sb s).take k) ++ [UInt8.ofNat (signD (s[k].toNat / 16)), UInt8.ofNat (signD (s[k].toNat % 16))] := by
        rw [List.take_succ_eq_append_getElem (by rw [sb_length]; exact h1), hexD_snoc]
        rfl
      have HST := Lib.hid hst
      have hjl : (hexD ((sb s).take k)).length = 2 * k := by rw [hexD_length]; simp [sb_length]; omega
      have HJL := Lib.hid hjl
      have hs1' := fun w => qsign_any (s[k].toNat / 16) w (by omega)
      have hs2' := fun w => qsign_any (s[k].toNat % 16) w (by omega)
      rw [show ((s[k].toNat / 16 : Nat) : Int) = (s[k].toNat : Int) / 16 by omega] at hs1'
      rw [show ((s[k].toNat % 16 : Nat) : Int) = ((s[k].toNat : Int)).tmod 16 by rw [Int.tmod_eq_emod_of_nonneg (by omega)]; omega] at hs2'
      rw [← show IntKind.u8.wrap ((s[k].toNat : Int) / 16) = (s[k].toNat : Int) / 16 by rw [IntKind.wrap_u8]; omega] at hs1'
      have hs1 := Lib.hid hs1'
      have hs2 := Lib.hid hs2'
      clear hs1' hs2'
      have hl1 := signD_lt (s[k].toNat / 16) (by omega)
      have hl2 := signD_lt (s[k].toNat % 16) (by omega)
      have hz := hbw.size
      clear hst hjl
      generalize hex1 : signD (s[k].toNat / 16) = x at *
      generalize hex2 : signD (s[k].toNat % 16) = y at *
      clear hex1 hex2
      generalize hrow : hexD ((sb s).take k) = row at *
      clear hrow
      have ho2 : ∀ q o, Own 5 ((wr.drewN q).alloc o) w.heap.size u3 row := fun q o => ho.alloc8 o
      have HO := Lib.hid ho2
      clear ho2
      go_wp2_with fail
      go_region_law (first
        | (refine step_append8 _ rfl (.tmp 11) (.tmp 22) 31 rfl w.heap.size 5 Tryd.underlying31 info5 _ row rfl (HO.out _ _) wr.heap.size _ [UInt8.ofNat x, UInt8.ofNat y] rfl (Shows.lit (w := wr) [UInt8.ofNat x, UInt8.ofNat y] (lit2 x y hl1 hl2) (by simp [maxLen])) (by rw [HJL.out]; simp; omega) (by simp; omega) ?_
           intro v6 w6 ho6 hg6)
        | (go_simp; go_at_call 57; with_reducible refine (hs1.out _).mono ?_; rintro e w' ⟨rfl, rfl⟩)
        | (go_simp; go_at_call 57; with_reducible refine (hs2.out _).mono ?_; rintro e w' ⟨rfl, rfl⟩))
      all_goals
        have hb6 : Below w.heap.size w w6 := ((below_drewN hbw _).alloc hbw.size _).grown hg6 (by have := hbw.size; simp; omega) (fun q hq => (ho.block q hq).1)
        go_wp2_with fail
        go_roundw
        case rel => exact ⟨k + 1, by omega, by go_num, by rw [HST.out]; exact ho6, hb6⟩
        case measure => simp [intOf]; omega
    · obtain rfl : k = s.size := by omega
      rw [List.take_of_length_le (by rw [sb_length]; exact Nat.le_refl _)] at ho
      obtain ⟨g, _, hsh⟩ := ho.shows
      have hcv := conv_at hsh
      go_wp2_with fail
      go_ret
      exact ⟨rfl, hbw⟩

end Go.Proofs.YtalcfglcbpkebaaDoor
