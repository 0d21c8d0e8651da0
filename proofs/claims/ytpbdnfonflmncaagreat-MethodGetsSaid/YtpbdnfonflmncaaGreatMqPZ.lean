/-
  The document's own Put of a method.
  Conditions: none but sizes.
-/
import Derived.Test.YtpbdnfonflmncaaGreatMq0Z
import Derived.Test.YtpbdnfonflmncaaGreatMeYZ
import Derived.Test.YtpbdnfonflmncaaGreatMeLZ
namespace Go.Proofs.YtpbdnfonflmncaaGreat
open Go.RowKit
set_option linter.unusedVariables false
set_option linter.unusedSimpArgs false
def PutMSaid (m : MethP) (w : World) (e : Ending) (w' : World) : Prop :=
  ∃ (v : Value) (n : Nat), e = .returned (.tuple #[v, .int .i64 n]) ∧ ((validM m ∧ n = 0 ∧ Own 5 w' w.heap.size v (m_putM m)) ∨ (¬ validM m ∧ n = 80 ∧ v = .slice none 0 0)) ∧ Below w.heap.size w w'
theorem putm_no {m : MethP} {w w' : World} {e : Ending} (h1 : e = .returned (.tuple #[.slice none 0 0, .int .i64 80])) (h2 : ¬ validM m) (h3 : Below w.heap.size w w') : PutMSaid m w e w' := ⟨_, 80, h1, .inr ⟨h2, rfl, rfl⟩, h3⟩
theorem putm_yes {m : MethP} {w w' : World} {e : Ending} (v : Value) (h1 : e = .returned (.tuple #[v, .int .i64 0])) (h2 : validM m) (h4 : Own 5 w' w.heap.size v (m_putM m)) (h3 : Below w.heap.size w w') : PutMSaid m w e w' := ⟨v, 0, h1, .inl ⟨h2, rfl, h4⟩, h3⟩
theorem mq_lit2 (w : World) (base a b : Nat) (ha : a < 256) (hb : b < 256) (h : base ≤ w.heap.size) : Own 5 (w.alloc (Obj.cells #[.int .u8 a, .int .u8 b] 5)) base (.slice (some ⟨w.heap.size, 0, none⟩) 2 2) [UInt8.ofNat a, UInt8.ofNat b] :=
  Own.lit (w := w) (e := 5) (base := base) [UInt8.ofNat a, UInt8.ofNat b] (by simp [bs, u8c]; omega) (by simp [maxLen]) h
theorem mq_show2 (w : World) (a b : Nat) (ha : a < 256) (hb : b < 256) : Shows (w.alloc (Obj.cells #[.int .u8 a, .int .u8 b] 5)) w.heap.size (.slice (some ⟨w.heap.size, 0, none⟩) 2 2) [UInt8.ofNat a, UInt8.ofNat b] :=
  Shows.lit (w := w) (e := 5) [UInt8.ofNat a, UInt8.ofNat b] (by simp [bs, u8c]; omega) (by simp [maxLen])
theorem mq_show11 (w : World) : Shows (w.alloc (Obj.cells #[.int .u8 1, .int .u8 1] 5)) w.heap.size (.slice (some ⟨w.heap.size, 0, none⟩) 2 2) [1, 1] := mq_show2 w 1 1 (by omega) (by omega)
theorem mq_show10 (w : World) : Shows (w.alloc (Obj.cells #[.int .u8 1, .int .u8 0] 5)) w.heap.size (.slice (some ⟨w.heap.size, 0, none⟩) 2 2) [1, 0] := mq_show2 w 1 0 (by omega) (by omega)
theorem mq_show0 (w : World) (n : Nat) (h : n < 256) : Shows (w.alloc (Obj.cells #[.int .u8 0, .int .u8 n] 5)) w.heap.size (.slice (some ⟨w.heap.size, 0, none⟩) 2 2) [0, UInt8.ofNat n] := mq_show2 w 0 n (by omega) h
theorem be2_small {n : Nat} (h : n < 256) : be 2 n = [0, UInt8.ofNat n] := by
  have e : n / 256 = 0 := Nat.div_eq_of_lt h
  simp [be, e]
theorem flags_drop (l : List ArgP) (m : Nat) (h : m < l.length) : m_flagsD (l.drop m) = (if l[m].is = true then 1 else 0) + 2 * m_flagsD (l.drop (m + 1)) := by
  rw [List.drop_eq_getElem_cons h]
  rfl
theorem flags_small (l : List ArgP) (m : Nat) (h : l.length ≤ 3) (hm : 0 < m) : m_flagsD (l.drop m) ≤ 3 := by
  have h1 := m_flagsD_lt (l.drop m)
  have h2 : 2 ^ (l.drop m).length ≤ 2 ^ 2 := Nat.pow_le_pow_right (by omega) (by rw [List.length_drop]; omega)
  omega
structure PutB (w W : World) (cl co : Nat) (sy : Bool) (v : Value) (rb : Nat) (r : RowT) (wr : World) : Prop where
  bel : Below W.heap.size W wr
  low : Below w.heap.size w W
  m : BoxM W w.heap.size cl co sy v
  r : BoxW W rb r
theorem PutB.step {w W wr w' : World} {cl co : Nat} {sy : Bool} {v : Value} {rb : Nat} {r : RowT} (h : PutB w W cl co sy v rb r wr) (hb : Below W.heap.size wr w') : PutB w W cl co sy v rb r w' := ⟨h.bel.trans hb, h.low, h.m, h.r⟩
theorem PutB.mat {w W wr : World} {cl co : Nat} {sy : Bool} {v : Value} {rb : Nat} {r : RowT} (h : PutB w W cl co sy v rb r wr) : BoxM wr w.heap.size cl co sy v := h.m.kept h.bel (Nat.le_refl _)
theorem PutB.rat {w W wr : World} {cl co : Nat} {sy : Bool} {v : Value} {rb : Nat} {r : RowT} (h : PutB w W cl co sy v rb r wr) : BoxW wr rb r := h.r.kept h.bel (Nat.le_refl _)
theorem PutB.all {w W wr : World} {cl co : Nat} {sy : Bool} {v : Value} {rb : Nat} {r : RowT} (h : PutB w W cl co sy v rb r wr) : Below w.heap.size w wr := h.low.trans (h.bel.mono h.low.size)
set_option maxRecDepth 100000 in
set_option maxHeartbeats 8000000 in
theorem qmput_any (cl co : Nat) (sy : Bool) (l : List ArgP) (A : Option Addr) (c : Nat) (w : World) (h : ListA w l A c) (hq : ∀ a ∈ l, a.q.length ≤ 1100) (hcl : cl < 256) (hco : co < 256) :
    Calls Tryz.prog 9 #[.agg #[.int .u8 cl, .int .u8 co, .bool sy, .slice A l.length c]] w (PutMSaid ⟨cl, co, sy, l⟩ w) := by
  have hX := BoxM.new w cl co sy (.slice A l.length c)
  have hb0 : Below w.heap.size w (w.alloc (Obj.cells #[.int .u8 cl, .int .u8 co, .bool sy, .slice A l.length c] 24)) := below_box w _
  have HFD := Lib.hid (fun w' => rfind_any table_any cl co w')
  have HL := Lib.hid (fun w' (hb : Below w.heap.size w w') => h.kept hb (Nat.le_refl _))
  have HQL := Lib.hid hq
  have hlm := h.lm
  generalize hW : w.alloc (Obj.cells #[.int .u8 cl, .int .u8 co, .bool sy, .slice A l.length c] 24) = W at *
  have HWW := Lib.hid hW
  have HB0 := Lib.hid (And.intro hb0 hX)
  have p0 := hX.c0
  have p1 := hX.c1
  clear h hW hX hb0 hq
  cases hf : m_findD cl co with
  | none =>
    rw [hf] at HFD
    simp only [Option.map_none, Option.getD_none, Option.isSome_none, rowV, row0] at HFD
    have HNV : Hid (¬ validM ⟨cl, co, sy, l⟩) := Lib.hid (fun ⟨ks, hk, _⟩ => by rw [kinds_none hf] at hk; cases hk)
    clear hf
    go_enter Tryz.func9, Tryz.ntmps9
    go_upto_region 1 with fail
    rw [HWW.out]
    go_wp2_with fail
    refine (HFD.out _).mono ?_
    rintro e w1 ⟨rfl, hb1⟩
    have hB1 : Below w.heap.size w w1 := HB0.out.1.trans (hb1.mono HB0.out.1.size)
    have hB2 := hB1.alloc hB1.size (Obj.cells #[.int .u8 (0 : Nat), .int .u8 (0 : Nat), .string ⟨#[]⟩, .string ⟨#[]⟩] 64)
    go_wp2_with fail
    go_ret2
    exact putm_no rfl HNV.out hB2
  | some s =>
    rw [hf] at HFD
    simp only [Option.map_some, Option.getD_some, Option.isSome_some, rowV, rowOf] at HFD
    have hk := kinds_of hf
    obtain ⟨hcl1, hcl2, hco2, hkl, hlet⟩ := kinds_ok hk
    have HVI := Lib.hid (valid_iff (m := ⟨cl, co, sy, l⟩) hf)
    have HKD : Hid ((kindsD cl co).getD [] = sb s.kinds) := Lib.hid (by rw [hk]; rfl)
    obtain ⟨sc, sw, sk⟩ := s
    dsimp only at HFD HVI HKD hkl hlet hk
    have HLET := Lib.hid hlet
    have hsl : (sb sk).length = sk.size := sb_length sk
    generalize nameD cl ⟨sc, sw, sk⟩ = nm at *
    clear hf hk hlet
    by_cases hlen : l.length = sk.size
    · by_cases hsy : sy = true ∧ cl ≤ 2
      · obtain ⟨rfl, hc2⟩ := hsy
        have s1 : ((l.length : Int) != (sk.size : Int)) = false := by rw [hlen]; simp
        have s2 : decide ((cl : Int) ≤ 2) = true := by simp; omega
        have HNV : Hid (¬ validM ⟨cl, co, true, l⟩) := Lib.hid (fun hv => by
          have h2 := (HVI.out.1 hv).2 rfl
          omega)
        clear hlen hc2
        go_enter Tryz.func9, Tryz.ntmps9
        go_upto_region 1 with fail
        rw [HWW.out]
        go_wp2_with fail
        refine (HFD.out _).mono ?_
        rintro e w1 ⟨rfl, hb1⟩
        have hB1 : Below w.heap.size w w1 := HB0.out.1.trans (hb1.mono HB0.out.1.size)
        have hB2 := hB1.alloc hB1.size (Obj.cells #[.int .u8 cl, .int .u8 co, .string nm, .string sk] 64)
        have hX1 := (HB0.out.2.kept hb1 (Nat.le_refl _)).kept (below_box w1 (Obj.cells #[.int .u8 cl, .int .u8 co, .string nm, .string sk] 64)) (Nat.le_refl _)
        have hR1 : BoxW (w1.alloc (Obj.cells #[.int .u8 cl, .int .u8 co, .string nm, .string sk] 64)) w1.heap.size ⟨cl, co, nm, sk⟩ := heap_alloc_new w1 _
        have q0 := hX1.c0
        have q2 := hX1.c2
        have q3 := hX1.c3
        have q4 := hR1.cells.2.2.2
        dsimp only at q4
        clear p0 p1 hX1 hR1
        go_wp2_with fail
        go_ret2
        exact putm_no rfl HNV.out hB2
      · have s1 : ((l.length : Int) != (sk.size : Int)) = false := by rw [hlen]; simp
        have hway : (2 < cl ∧ sy = true) ∨ (2 < cl ∧ sy = false) ∨ (cl ≤ 2 ∧ sy = false) := by
          cases sy <;> simp at hsy ⊢ <;> omega
        have HSY : Hid (sy = true → 2 < cl) := Lib.hid (fun h => by
          by_cases hc : cl ≤ 2
          · exact absurd ⟨h, hc⟩ hsy
          · omega)
        have HLN := Lib.hid hlen
        have hl3 : l.length ≤ 3 := by omega
        clear hsy hlen
        go_enter Tryz.func9, Tryz.ntmps9
        go_upto_region 1 with fail
        rw [HWW.out]
        go_wp2_with fail
        refine (HFD.out _).mono ?_
        rintro e w1 ⟨rfl, hb1⟩
        have hB1 : Below w.heap.size w w1 := HB0.out.1.trans (hb1.mono HB0.out.1.size)
        have hR1 : BoxW (w1.alloc (Obj.cells #[.int .u8 cl, .int .u8 co, .string nm, .string sk] 64)) w1.heap.size ⟨cl, co, nm, sk⟩ := heap_alloc_new w1 _
        have hPB : PutB w (w1.alloc (Obj.cells #[.int .u8 cl, .int .u8 co, .string nm, .string sk] 64)) cl co sy (.slice A l.length c) w1.heap.size ⟨cl, co, nm, sk⟩ (w1.alloc (Obj.cells #[.int .u8 cl, .int .u8 co, .string nm, .string sk] 64)) :=
          ⟨Below.refl _ _, hB1.alloc hB1.size _, (HB0.out.2.kept hb1 (Nat.le_refl _)).kept (below_box w1 _) (Nat.le_refl _), hR1⟩
        have HP1 := Lib.hid hPB
        clear p0 p1 hB1 hR1 hb1 hPB
        go_upto_region 2 with fail
        generalize w1.alloc _ = W1 at *
        generalize w1.heap.size = rb at *
        have q0 := HP1.out.m.c0
        have q1 := HP1.out.m.c1
        have q3 := HP1.out.m.c3
        have q4 := HP1.out.r.cells.2.2.2
        dsimp only at q4
        have hbW := below_box W1 (Obj.cells #[.int .u8 cl, .int .u8 co] 5)
        have hOL := mq_lit2 W1 W1.heap.size cl co hcl hco (Nat.le_refl _)
        have HP2 := Lib.hid (HP1.out.step hbW)
        have HO2 := Lib.hid hOL
        have HSZ : Hid (W1.heap.size < (W1.alloc (Obj.cells #[.int .u8 cl, .int .u8 co] 5)).heap.size) := Lib.hid (by simp)
        clear hbW hOL
        have hcx := HP1.out.m
        rcases hway with ⟨hc2, hs⟩ | ⟨hc2, hs⟩ | ⟨hc2, hs⟩
        case' inl =>
          have s3 : decide ((2 : Int) < (cl : Int)) = true := by simp; omega
          have s2 : decide ((cl : Int) ≤ 2) = false := by simp; omega
          have q2 : W1.cell? ⟨w.heap.size, 2, none⟩ = some (.bool true) := by rw [← hs]; exact hcx.c2
          have HS := Lib.hid hs
          have HC2 := Lib.hid hc2
          clear hs hc2 hcx
          go_upto_region 5 with fail
          have q0 := HP2.out.mat.c0
          have q2 : (W1.alloc (Obj.cells #[.int .u8 cl, .int .u8 co] 5)).cell? ⟨w.heap.size, 2, none⟩ = some (.bool true) := by rw [← HS.out]; exact HP2.out.mat.c2
          generalize W1.alloc _ = W2 at *
          go_upto_region 9 with (at_builtin; refine wpList_append8 _ rfl (.tmp 52) (.tmp 53) 28 rfl W1.heap.size 5 Tryz.underlying28 info5 (.slice (some ⟨W1.heap.size, 0, none⟩) 2 2) [UInt8.ofNat cl, UInt8.ofNat co] rfl (HO2.out.alloc_ _) W2.heap.size (.slice (some ⟨W2.heap.size, 0, none⟩) 2 2) [1, 1] rfl (mq_show11 W2) (by simp) (by have := HSZ.out; simp; omega) ?_; intro v6 W6 ho6 hg6; have hb6 : Below W1.heap.size W2 W6 := ((below_box W2 (Obj.cells #[.int .u8 1, .int .u8 1] 5)).mono (Nat.le_of_lt HSZ.out)).grown hg6 (by simp; have := HSZ.out; omega) (fun k hk => (HO2.out.block k hk).1); have HP6 := Lib.hid (HP2.out.step hb6); have r0 := HP6.out.mat.c0; have r2 : W6.cell? ⟨w.heap.size, 2, none⟩ = some (.bool true) := by rw [← HS.out]; exact HP6.out.mat.c2)
          have HO6 := Lib.hid ho6
          have HHD : Hid (headM ⟨cl, co, sy, l⟩ = [UInt8.ofNat cl, UInt8.ofNat co] ++ [1, 1]) := Lib.hid (by unfold headM; rw [HS.out]; simp [HC2.out])
          have HHL : Hid (([UInt8.ofNat cl, UInt8.ofNat co] ++ [1, 1] : List UInt8).length ≤ 4) := Lib.hid (by simp)
          clear hb6 ho6 hg6 s2 s3 r0 r2 q0 q1 q2 q3 q4
          generalize ([UInt8.ofNat cl, UInt8.ofNat co] ++ [1, 1] : List UInt8) = HD at *
        case' inr.inl =>
          have s3 : decide ((2 : Int) < (cl : Int)) = true := by simp; omega
          have s2 : decide ((cl : Int) ≤ 2) = false := by simp; omega
          have q2 : W1.cell? ⟨w.heap.size, 2, none⟩ = some (.bool false) := by rw [← hs]; exact hcx.c2
          have HS := Lib.hid hs
          have HC2 := Lib.hid hc2
          clear hs hc2 hcx
          go_upto_region 5 with fail
          have q0 := HP2.out.mat.c0
          have q2 : (W1.alloc (Obj.cells #[.int .u8 cl, .int .u8 co] 5)).cell? ⟨w.heap.size, 2, none⟩ = some (.bool false) := by rw [← HS.out]; exact HP2.out.mat.c2
          generalize W1.alloc _ = W2 at *
          go_upto_region 9 with (at_builtin; refine wpList_append8 _ rfl (.tmp 63) (.tmp 64) 28 rfl W1.heap.size 5 Tryz.underlying28 info5 (.slice (some ⟨W1.heap.size, 0, none⟩) 2 2) [UInt8.ofNat cl, UInt8.ofNat co] rfl (HO2.out.alloc_ _) W2.heap.size (.slice (some ⟨W2.heap.size, 0, none⟩) 2 2) [1, 0] rfl (mq_show10 W2) (by simp) (by have := HSZ.out; simp; omega) ?_; intro v6 W6 ho6 hg6)
          have hb6 : Below W1.heap.size W2 W6 := ((below_box W2 (Obj.cells #[.int .u8 1, .int .u8 0] 5)).mono (Nat.le_of_lt HSZ.out)).grown hg6 (by simp; have := HSZ.out; omega) (fun k hk => (HO2.out.block k hk).1)
          have HP6 := Lib.hid (HP2.out.step hb6)
          have HO6 := Lib.hid ho6
          have HHD : Hid (headM ⟨cl, co, sy, l⟩ = [UInt8.ofNat cl, UInt8.ofNat co] ++ [1, 0]) := Lib.hid (by unfold headM; rw [HS.out]; simp [HC2.out])
          have HHL : Hid (([UInt8.ofNat cl, UInt8.ofNat co] ++ [1, 0] : List UInt8).length ≤ 4) := Lib.hid (by simp)
          clear hb6 ho6 hg6 s2 s3 q0 q1 q2 q3 q4
          generalize ([UInt8.ofNat cl, UInt8.ofNat co] ++ [1, 0] : List UInt8) = HD at *
        case' inr.inr =>
          have s3 : decide ((2 : Int) < (cl : Int)) = false := by simp; omega
          have s2 : decide ((cl : Int) ≤ 2) = true := by simp; omega
          have q2 : W1.cell? ⟨w.heap.size, 2, none⟩ = some (.bool false) := by rw [← hs]; exact hcx.c2
          have HS := Lib.hid hs
          have HC2 := Lib.hid hc2
          clear hs hc2 hcx
          go_upto_region 5 with fail
          have q0 := HP2.out.mat.c0
          generalize W1.alloc _ = W6 at *
          go_upto_region 9 with fail
          have HP6 := HP2
          have HO6 := HO2
          have HHD : Hid (headM ⟨cl, co, sy, l⟩ = [UInt8.ofNat cl, UInt8.ofNat co]) := Lib.hid (by
            unfold headM
            rw [if_neg (show ¬ 2 < cl by have := HC2.out; omega)]
            rfl)
          have HHL : Hid (([UInt8.ofNat cl, UInt8.ofNat co] : List UInt8).length ≤ 4) := Lib.hid (by simp)
          clear s2 s3 q0 q1 q2 q3 q4
          obtain ⟨v6, hv6⟩ : ∃ v, v = Value.slice (some ⟨W1.heap.size, 0, none⟩) 2 2 := ⟨_, rfl⟩
          rw [← hv6] at HO6 ⊢
          clear hv6
          generalize ([UInt8.ofNat cl, UInt8.ofNat co] : List UInt8) = HD at *
        all_goals
          clear HP2 HO2 HB0
          have q3 := HP6.out.mat.c3
          obtain ⟨L0, hL0⟩ : ∃ L0 : Int, (l.length : Int) - 1 = L0 := ⟨_, rfl⟩
          have E0 := Lib.hid (show wrap64 ((l.length : Int) - 1) = L0 ∧ IntKind.i64.wrap ((l.length : Int) - 1) = L0 by rw [hL0]; exact ⟨w64_id _ (by omega) (by omega), i64_id _ (by omega) (by omega)⟩)
          have HL0 := Lib.hid hL0
          clear hL0
          have z1 := E0.out.1
          have z2 := E0.out.2
          go_wp2_with fail
          clear z1 z2
          have HST : Hid (L0 = -1 ∧ l.length = 0 ∨ ∃ m : Nat, l.length = m + 1 ∧ L0 = m) := Lib.hid (by
            have := HL0.out
            by_cases h0 : l.length = 0
            · exact .inl ⟨by omega, h0⟩
            · exact .inr ⟨l.length - 1, by omega, by omega⟩)
          go_loopw [7, 8] (fun f i wr => ∃ k : Nat, k ≤ l.length ∧ f = .int .u8 (m_flagsD (l.drop k) : Nat) ∧ ((k = 0 ∧ i = .int .i64 (-1)) ∨ ∃ m : Nat, k = m + 1 ∧ i = .int .i64 m) ∧ wr = W6) (fun _ i _ => (intOf i + 1).toNat)
          case atStart =>
            refine ⟨l.length, Nat.le_refl _, by simp [m_flagsD], ?_, rfl⟩
            rcases HST.out with ⟨h1, h2⟩ | ⟨m, h1, h2⟩
            · exact .inl ⟨h2, by rw [h1]⟩
            · exact .inr ⟨m, h1, by rw [h2]⟩
          case round =>
            obtain ⟨k, hk, rfl, hi, rfl⟩ := hrel
            rename World => W6
            rcases hi with ⟨rfl, rfl⟩ | ⟨m, rfl, rfl⟩
            · skip
              obtain ⟨FL, hFL⟩ : ∃ FL, FL = m_flagsD (l.drop 0) := ⟨_, rfl⟩
              rw [← hFL]
              have hFLb : FL < 256 := by
                have h1 := m_flagsD_lt (l.drop 0)
                have h2 : 2 ^ (l.drop 0).length ≤ 2 ^ 3 := Nat.pow_le_pow_right (by omega) (by rw [List.length_drop]; omega)
                omega
              have HFL : Hid (be 2 (m_flagsD l) = [0, UInt8.ofNat FL]) := Lib.hid (by
                have e : FL = m_flagsD l := hFL
                rw [← e, be2_small hFLb])
              have hw1 := HP6.out.bel.size
              clear hFL q3
              have HW1 := Lib.hid hw1
              go_upto_region 17 with (at_builtin; refine wpList_append8 _ rfl (.tmp 84) (.tmp 86) 28 rfl W1.heap.size 5 Tryz.underlying28 info5 v6 HD rfl (HO6.out.alloc_ _) W6.heap.size (.slice (some ⟨W6.heap.size, 0, none⟩) 2 2) [0, UInt8.ofNat FL] rfl (mq_show0 W6 FL hFLb) (by have := HHL.out; simp; omega) (by simp; omega) ?_; intro v7 W7 ho7 hg7)
              have hb7 : Below W1.heap.size W6 W7 := ((below_box W6 (Obj.cells #[.int .u8 0, .int .u8 FL] 5)).mono hw1).grown hg7 (by simp; omega) (fun k hk => (HO6.out.block k hk).1)
              have HP7 := Lib.hid (HP6.out.step hb7)
              have HRES : Hid (m_putM ⟨cl, co, sy, l⟩ = (HD ++ [0, UInt8.ofNat FL]) ++ encArgs (sb sk) l) := Lib.hid (by
                unfold m_putM
                rw [HHD.out]
                dsimp only
                rw [HKD.out, HFL.out, List.append_assoc])
              have HPL : Hid ((HD ++ [0, UInt8.ofNat FL]).length ≤ 6) := Lib.hid (by have := HHL.out; simp; omega)
              have HO7 := Lib.hid ho7
              have q3 := HP7.out.mat.c3
              clear hb7 ho7 hg7 hw1 hFLb HHD HFL HHL HO6 HP6
              generalize HD ++ [0, UInt8.ofNat FL] = P2 at *
              go_wp2_with fail
              clear q3
              go_loopw [6, 9] (fun b i wr => ∃ j : Nat, j ≤ l.length ∧ i = .int .i64 j ∧ Hid (Own 5 wr W1.heap.size b (P2 ++ encArgs ((sb sk).take j) (l.take j))) ∧ Hid (PutB w W1 cl co sy (.slice A l.length c) rb ⟨cl, co, nm, sk⟩ wr) ∧ Hid (∀ q (h : q < (sb sk).length) (h' : q < l.length), q < j → validA (sb sk)[q].toNat l[q])) (fun _ i _ => l.length - (intOf i).toNat)
              case atStart => exact ⟨0, Nat.zero_le _, rfl, Lib.hid (by simpa [encArgs] using HO7.out), Lib.hid (by simpa using HP7.out), Lib.hid (fun q h h' hq => absurd hq (Nat.not_lt_zero _))⟩
              case round =>
                obtain ⟨j, hj, rfl, HOJ, HPJ, HVJ⟩ := hrel
                rename World => wj
                have hlen := HLN.out
                have q3 := HPJ.out.mat.c3
                have q4 := HPJ.out.rat.cells.2.2.2
                dsimp only at q4
                by_cases hlt : j < l.length
                · have hjk : j < sk.size := by omega
                  have hjl : (j : Int) < (l.length : Int) := by omega
                  have hjs : (j : Int) < (sk.size : Int) := by omega
                  obtain ⟨d, o, B, e, dq, v0, v1, v2, v3, v4, rfl, hd, hsh, ⟨e0, e1, e2⟩, ⟨e3, e4, e5⟩, e6, e7, e8, e9, e10, e11⟩ := (HL.out wj HPJ.out.all).at_ j hlt
                  have hkk : (sb sk)[j]'(by rw [sb_length]; exact hjk) = sk[j] := sb_get sk j hjk _
                  have hlj : lett (sk[j].toNat) := by rw [← hkk]; exact HLET.out _ (List.getElem_mem _)
                  have HAR := Lib.hid (fun w' (hb : Below wj.heap.size wj w') => qarg_any sk[j].toNat hlj l[j] B e dq v0 v1 v2 v3 v4 w' (hsh.kept hb (Nat.le_refl _)) (HQL.out _ (List.getElem_mem hlt)))
                  have HNV5 : Hid (¬ validA sk[j].toNat l[j] → ¬ validM ⟨cl, co, sy, l⟩) := Lib.hid (fun hn hv => hn (by
                    have := ((allV_iff _ _).1 (HVI.out.1 hv).1).2 j (by rw [sb_length]; exact hjk) hlt
                    rw [hkk] at this
                    exact this))
                  have HVN : Hid (validA sk[j].toNat l[j] → ∀ q (h : q < (sb sk).length) (h' : q < l.length), q < j + 1 → validA (sb sk)[q].toNat l[q]) := Lib.hid (fun hv q h h' hq => by
                    by_cases hq2 : q < j
                    · exact HVJ.out q h h' hq2
                    · obtain rfl : q = j := by omega
                      rw [hkk]
                      exact hv)
                  have hst := encArgs_take (sb sk) l j (by rw [sb_length]; exact hjk) hlt
                  rw [hkk] at hst
                  have HNE : Hid (P2 ++ encArgs ((sb sk).take (j + 1)) (l.take (j + 1)) = (P2 ++ encArgs ((sb sk).take j) (l.take j)) ++ encA sk[j].toNat l[j]) := Lib.hid (by rw [hst, List.append_assoc])
                  have HEL : Hid (validA sk[j].toNat l[j] → (encA sk[j].toNat l[j]).length ≤ 880000) := Lib.hid (fun hv => encA_len hlj hv.2.1)
                  have HAC : Hid ((P2 ++ encArgs ((sb sk).take j) (l.take j)).length ≤ 6 + 880000 * 3) := Lib.hid (by
                    have h1 : allV ((sb sk).take j) (l.take j) := (allV_iff _ _).2 ⟨by rw [List.length_take, List.length_take, hsl]; omega, fun q h h' => by
                      rw [List.length_take] at h h'
                      rw [List.getElem_take, List.getElem_take]
                      exact HVJ.out q (by omega) (by omega) (by omega)⟩
                    have h2 := encArgs_len ((sb sk).take j) (l.take j) (fun x hx => HLET.out x (List.mem_of_mem_take hx)) h1
                    have h3 : ((sb sk).take j).length ≤ 3 := by rw [List.length_take]; omega
                    have := HPL.out
                    rw [List.length_append]
                    omega)
                  have hKP : ∀ w', Below wj.heap.size wj w' → (w'.cell? ⟨w.heap.size, 3, none⟩ = some (.slice (some ⟨d, o, none⟩) l.length c) ∧ w'.cell? ⟨rb, 3, none⟩ = some (.string sk)) ∧ ((w'.cell? ⟨d, o + j * 12, none⟩ = some (.bool l[j].is) ∧ w'.cell? ⟨d, o + j * 12 + 1, none⟩ = some (.int .u64 l[j].n) ∧ w'.cell? ⟨d, o + j * 12 + 2, none⟩ = some (.string l[j].s)) ∧ (w'.cell? ⟨d, o + j * 12 + 3, none⟩ = some (.int .u32 l[j].f) ∧ w'.cell? ⟨d, o + j * 12 + 4, none⟩ = some (.string l[j].g) ∧ w'.cell? ⟨d, o + j * 12 + 5, none⟩ = some (.string l[j].h)) ∧ w'.cell? ⟨d, o + j * 12 + 6, none⟩ = some (.slice B l[j].q.length e) ∧ (w'.cell? ⟨d, o + j * 12 + 7, none⟩ = some v0 ∧ w'.cell? ⟨d, o + j * 12 + 8, none⟩ = some v1 ∧ w'.cell? ⟨d, o + j * 12 + 9, none⟩ = some v2 ∧ w'.cell? ⟨d, o + j * 12 + 10, none⟩ = some v3 ∧ w'.cell? ⟨d, o + j * 12 + 11, none⟩ = some v4)) := fun w' hb => by
                    have hk : ∀ i, w'.cell? ⟨d, i, none⟩ = wj.cell? ⟨d, i, none⟩ := fun i => World.cell?_of_block (hb.block d hd)
                    have hp := HPJ.out.step (hb.mono HPJ.out.bel.size)
                    exact ⟨⟨hp.mat.c3, hp.rat.cells.2.2.2⟩, ⟨(hk _).trans e0, (hk _).trans e1, (hk _).trans e2⟩, ⟨(hk _).trans e3, (hk _).trans e4, (hk _).trans e5⟩, (hk _).trans e6, (hk _).trans e7, (hk _).trans e8, (hk _).trans e9, (hk _).trans e10, (hk _).trans e11⟩
                  have HKP := Lib.hid hKP
                  have HNX := Lib.hid (fun w' w'' (hb' : Below w'.heap.size w' w'') (hb : Below wj.heap.size wj w') => hb.trans (hb'.mono hb.size))
                  have hbd : Below wj.heap.size wj wj.drew := below_drew1 (Below.refl _ _)
                  obtain ⟨xk, xn, xs, xa, xb, xc, xd, xe, xf, hxx⟩ := hsh.v.cells5
                  simp only [List.cons.injEq, and_true] at hxx
                  obtain ⟨rfl, rfl, rfl, rfl, rfl⟩ := hxx
                  clear hKP hst hsh hd hkk hlj
                  unfold argV at HAR
                  generalize l[j] = aj at *
                  obtain ⟨ai, an, az, af, ag, ah, aq, av⟩ := aj
                  dsimp only at HAR HKP e0 e1 e2 e3 e4 e5 e6 e7 e8 e9 e10 e11
                  clear hlen
                  go_upto_region 20 with fail
                  have hw1 : W1.heap.size ≤ wj.heap.size := HPJ.out.bel.size
                  go_region_held3 (fun w' => (w'.cell? ⟨w.heap.size, 3, none⟩ = some (.slice (some ⟨d, o, none⟩) l.length c) ∧ w'.cell? ⟨rb, 3, none⟩ = some (.string sk)) ∧ ((w'.cell? ⟨d, o + j * 12, none⟩ = some (.bool ai) ∧ w'.cell? ⟨d, o + j * 12 + 1, none⟩ = some (.int .u64 an) ∧ w'.cell? ⟨d, o + j * 12 + 2, none⟩ = some (.string az)) ∧ (w'.cell? ⟨d, o + j * 12 + 3, none⟩ = some (.int .u32 af) ∧ w'.cell? ⟨d, o + j * 12 + 4, none⟩ = some (.string ag) ∧ w'.cell? ⟨d, o + j * 12 + 5, none⟩ = some (.string ah)) ∧ w'.cell? ⟨d, o + j * 12 + 6, none⟩ = some (.slice B aq.length e) ∧ (w'.cell? ⟨d, o + j * 12 + 7, none⟩ = some (.int .u8 xk) ∧ w'.cell? ⟨d, o + j * 12 + 8, none⟩ = some (.int .u64 xn) ∧ w'.cell? ⟨d, o + j * 12 + 9, none⟩ = some (.string xs) ∧ w'.cell? ⟨d, o + j * 12 + 10, none⟩ = some (.slice xa xb xc) ∧ w'.cell? ⟨d, o + j * 12 + 11, none⟩ = some (.slice xd xe xf)))) (exact HKP.out _ (by assumption))
                    ((go_at_call 24
                      refine (HAR.out _ (by assumption)).mono ?_
                      rintro e5 w5 ⟨v5, r5, rfl, hr5, ho5, hb5⟩
                      have hb5' := HNX.out _ _ hb5 (by assumption)))
                  all_goals
                    simp only [Exit.inBlock, Exit.then, Exit.noGoto]
                    have HB5 := Lib.hid hb5'
                    have HR5 := Lib.hid (And.intro hr5 ho5)
                    clear hr5 ho5 hb5 hb5' e0 e1 e2 e3 e4 e5 e6 e7 e8 e9 e10 e11 q3 q4
                    cases r5 with
                    | false =>
                      have HNO := Lib.hid (HNV5.out (fun h => by cases HR5.out.1.2 h))
                      go_wp2_with fail
                      go_ret2
                      exact putm_no rfl HNO.out (HPJ.out.all.trans (HB5.out.mono HPJ.out.all.size))
                    | true =>
                      have hva := HR5.out.1.1 rfl
                      have hel := HEL.out hva
                      have hac := HAC.out
                      obtain ⟨g5, _, hs5⟩ := (HR5.out.2 rfl).shows
                      have HVN2 := Lib.hid (HVN.out hva)
                      have hoj := HOJ.out.keep (fun g hg => HB5.out.block g (HOJ.out.block g hg).2)
                      have hws := HB5.out.size
                      clear hva
                      generalize encA sk[j].toNat _ = ex at *
                      generalize P2 ++ encArgs ((sb sk).take j) (l.take j) = acc at *
                      have HSH := Lib.hid (And.intro hs5 hoj)
                      clear hs5 hoj
                      go_wp2_with (at_builtin; refine wpList_append8 _ rfl (.tmp 110) (.tmp 111) 28 rfl W1.heap.size 5 Tryz.underlying28 info5 _ acc rfl HSH.out.2 g5 v5 ex rfl HSH.out.1 (by omega) (by omega) ?_; intro v9 w9 ho9 hg9)
                      have hb9 : Below W1.heap.size wj w9 := ((HB5.out.mono hw1)).grown hg9 (by omega) (fun k hk => (HOJ.out.block k hk).1)
                      have HP9 := Lib.hid (HPJ.out.step hb9)
                      have HO9 := Lib.hid ho9
                      clear hb9 ho9 hg9
                      go_roundw
                      case rel => exact ⟨j + 1, by omega, by go_num, Lib.hid (by rw [HNE.out]; exact HO9.out), HP9, HVN2⟩
                      case measure => simp [intOf]; omega
                · have hjl : ¬ (j : Int) < (l.length : Int) := by omega
                  have hve : Hid (validM ⟨cl, co, sy, l⟩) := Lib.hid (HVI.out.2 ⟨(allV_iff _ _).2 ⟨by rw [hsl]; exact hlen, fun q h h' => HVJ.out q h h' (by omega)⟩, HSY.out⟩)
                  have he : P2 ++ encArgs ((sb sk).take j) (l.take j) = m_putM ⟨cl, co, sy, l⟩ := by
                    rw [HRES.out, List.take_of_length_le (by omega), List.take_of_length_le (by omega)]
                  have HOE := Lib.hid (show Own 5 wj w.heap.size _ (m_putM ⟨cl, co, sy, l⟩) by rw [← he]; exact HOJ.out.mono HPJ.out.low.size)
                  clear he hlen
                  go_wp2_with fail
                  go_ret2
                  exact putm_yes _ rfl hve.out HOE.out HPJ.out.all
            · have hm : m < l.length := by omega
              have hstep := flags_drop l m hm
              have hF3 := flags_small l (m + 1) hl3 (by omega)
              obtain ⟨d, o, B, e, dq, v0, v1, v2, v3, v4, rfl, hd, hsh, ⟨e0, _, _⟩, _⟩ := (HL.out W6 HP6.out.all).at_ m hm
              have HSTP := Lib.hid hstep
              clear hstep hsh hd
              generalize m_flagsD (l.drop (m + 1)) = F at *
              have hm2 : (m : Int) < (l.length : Int) := by omega
              have E1 := Lib.hid (show IntKind.u8.wrap (2 * (F : Int)) = ((2 * F : Nat) : Int) by rw [IntKind.wrap_u8]; omega)
              have E2 := Lib.hid (show IntKind.u8.wrap (((2 * F : Nat) : Int) + 1) = ((2 * F + 1 : Nat) : Int) by rw [IntKind.wrap_u8]; omega)
              obtain ⟨M0, hM0⟩ : ∃ M0 : Int, (m : Int) - 1 = M0 := ⟨_, rfl⟩
              have E3 := Lib.hid (show wrap64 ((m : Int) - 1) = M0 ∧ IntKind.i64.wrap ((m : Int) - 1) = M0 by rw [hM0]; exact ⟨w64_id _ (by omega) (by omega), i64_id _ (by omega) (by omega)⟩)
              have HM0 : Hid ((m = 0 ∧ M0 = -1) ∨ ∃ n : Nat, m = n + 1 ∧ M0 = n) := Lib.hid (by
                by_cases h0 : m = 0
                · exact .inl ⟨h0, by omega⟩
                · exact .inr ⟨m - 1, by omega, by omega⟩)
              have hMs : (M0 + 1).toNat < ((m : Int) + 1).toNat := by omega
              have HMS := Lib.hid hMs
              clear hM0 hMs
              have z0 := E1.out
              have z1 := E2.out
              have z2 := E3.out.1
              have z3 := E3.out.2
              generalize 2 * F = F2 at *
              generalize hF21 : F2 + 1 = F21 at *
              have HF21 := Lib.hid hF21
              clear hF21
              generalize l[m].is = bi at *
              cases bi with
              | true =>
                go_wp2_with fail
                go_roundw
                case rel =>
                  refine ⟨m, by omega, by rw [HSTP.out, if_pos rfl, Nat.add_comm, HF21.out], ?_, by first | rfl | trivial⟩
                  rcases HM0.out with ⟨h1, h2⟩ | ⟨n, h1, h2⟩
                  · exact .inl ⟨h1, by rw [h2]⟩
                  · exact .inr ⟨n, h1, by rw [h2]⟩
                case measure => exact HMS.out
              | false =>
                go_wp2_with fail
                go_roundw
                case rel =>
                  refine ⟨m, by omega, by rw [HSTP.out, if_neg (by simp), Nat.zero_add], ?_, by first | rfl | trivial⟩
                  rcases HM0.out with ⟨h1, h2⟩ | ⟨n, h1, h2⟩
                  · exact .inl ⟨h1, by rw [h2]⟩
                  · exact .inr ⟨n, h1, by rw [h2]⟩
                case measure => exact HMS.out
    · have s1 : ((l.length : Int) != (sk.size : Int)) = true := by rw [bne_iff_ne]; omega
      have HNV : Hid (¬ validM ⟨cl, co, sy, l⟩) := Lib.hid (fun hv => by
        have h2 := allV_len (HVI.out.1 hv).1
        omega)
      clear hlen
      go_enter Tryz.func9, Tryz.ntmps9
      go_upto_region 1 with fail
      rw [HWW.out]
      go_wp2_with fail
      refine (HFD.out _).mono ?_
      rintro e w1 ⟨rfl, hb1⟩
      have hB1 : Below w.heap.size w w1 := HB0.out.1.trans (hb1.mono HB0.out.1.size)
      have hB2 := hB1.alloc hB1.size (Obj.cells #[.int .u8 cl, .int .u8 co, .string nm, .string sk] 64)
      have hX1 := (HB0.out.2.kept hb1 (Nat.le_refl _)).kept (below_box w1 (Obj.cells #[.int .u8 cl, .int .u8 co, .string nm, .string sk] 64)) (Nat.le_refl _)
      have hR1 : BoxW (w1.alloc (Obj.cells #[.int .u8 cl, .int .u8 co, .string nm, .string sk] 64)) w1.heap.size ⟨cl, co, nm, sk⟩ := heap_alloc_new w1 _
      have q3 := hX1.c3
      have q4 := hR1.cells.2.2.2
      dsimp only at q4
      clear p0 p1 hX1 hR1
      go_wp2_with fail
      go_ret2
      exact putm_no rfl HNV.out hB2
end Go.Proofs.YtpbdnfonflmncaaGreat
