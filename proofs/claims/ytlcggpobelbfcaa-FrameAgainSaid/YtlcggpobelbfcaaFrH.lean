/-
  The contracts of the document's own Scan and Same for frames.
  Conditions: at most 1000000 bytes.
-/
import Derived.Test.YtlcggpobelbfcaaFrG
import Derived.Test.YtlcggpobelbfcaaFrF
import Derived.Deep.LoopGhost
import Derived.Deep.QuietTactic
import Derived.BigQuiet
namespace Go.Proofs.Ytlcggpobelbfcaa
open Go.RowKit
set_option linter.unusedVariables false
set_option linter.unusedSimpArgs false

set_option maxRecDepth 100000 in
set_option maxHeartbeats 8000000 in
theorem qscan_any (A : Option Addr) (c d : Nat) (l : List UInt8) (w : World) (h : Shows w d (.slice A l.length c) l) (hl : l.length ≤ 1000000) :
    Calls Try.prog 24 #[.slice A l.length c] w (ScanSaid l w) := by
  obtain ⟨hl1, hlc, hcm⟩ := h.lens
  have HS := Lib.hid (fun w' (hb : Below w.heap.size w w') => (h.keep hb.size fun hp => hb.block d (h.lt hp) : Shows w' d (.slice A l.length c) l))
  unfold ScanSaid
  have HM0 := Lib.hid (Mid.start l)
  clear h
  go_enter Try.func24, Try.ntmps24
  go_wp2_with fail
  go_loopw [5, 6] (fun x i wr => ∃ (k : Nat) (fs : List Fr), i = .int .i64 k ∧ k ≤ l.length ∧ 12 * fs.length ≤ k ∧ Hid (Mid l fs k) ∧ OwnG frC 44 wr w.heap.size x fs ∧ Hid (Below w.heap.size w wr)) (fun _ i _ => l.length - (intOf i).toNat)
  case atStart => exact ⟨0, [], rfl, Nat.zero_le _, Nat.zero_le _, HM0, OwnG.nil_ _ _ _ _, Lib.hid (Below.refl _ _)⟩
  case round =>
    obtain ⟨k, fs, rfl, hk, hfk, HM, ho, HB⟩ := hrel
    rename World => wj
    have HS1 := Lib.hid (HS.out wj HB.out)
    obtain ⟨A1, hA1⟩ : ∃ A1, (if c = k then A else Option.map (fun x => x.add k) A) = A1 := ⟨_, rfl⟩
    have HT := Lib.hid (tail_at HS1.out k hk A1 hA1)
    have hlen : (l.drop k).length = l.length - k := List.length_drop
    have HL := Lib.hid hlen
    have HT2 := Lib.hid (fun w' (hb : Below wj.heap.size wj w') => (tail_at (HS.out w' (HB.out.trans (hb.mono HB.out.size))) k hk A1 hA1))
    cases hone : isOne (l.drop k) with
    | false =>
      have hno := one_no A1 (c - k) d (l.drop k) wj (by rw [hlen]; exact HT.out) (by omega) hone
      have hwe := fun w' (hb : Below wj.heap.size wj w') => well_any A1 (c - k) d (l.drop k) w' (by rw [hlen]; exact HT2.out w' hb) (by omega)
      rw [hlen] at hno hwe
      have HNO := Lib.hid hno
      have HWE := Lib.hid hwe
      have hfin := HM.out.last hone
      have herr := HM.out.err hone
      have HFIN := Lib.hid hfin
      have HERR := Lib.hid herr
      clear hno hwe hfin herr hone hlen
      simp only [Fr.vs, zF] at HNO
      go_wp2_with fail
      refine HNO.out.mono ?_
      rintro e w2 ⟨rfl, hb2⟩
      have hbA := hb2.trans ((below_box w2 (Obj.cells #[.bool false, .bool false, .bool false, .bool false, .int .u8 ((0 : Nat) : Int), .int .u8 ((0 : Nat) : Int), .int .u16 ((0 : Nat) : Int), .string ⟨#[]⟩] 44)).mono hb2.size)
      have HBA := Lib.hid hbA
      have hwl := HWE.out _ hbA
      have HO2 := Lib.hid (ho.below hbA (Nat.le_refl _))
      obtain ⟨W2, hW2⟩ : ∃ W2, W2 = w2.alloc (Obj.cells #[.bool false, .bool false, .bool false, .bool false, .int .u8 0, .int .u8 0, .int .u16 0, .string ⟨#[]⟩] 44) := ⟨_, rfl⟩
      have HWL := Lib.hid (show Calls Try.prog 53 #[.slice A1 (l.length - k) (c - k)] W2 fun e w' => e = .returned (.bool (wellD (l.drop k))) ∧ ∃ q, w' = W2.drewN q by rw [hW2]; exact hwl)
      have HBB : Hid (Below wj.heap.size wj W2) := Lib.hid (by rw [hW2]; exact hbA)
      clear hwl hbA hb2 HO2 HBA HWE
      have hkl : k ≤ c := by omega
      cases hw : wellD (l.drop k) with
      | false =>
        rw [hw] at HWL HERR
        have herr := HERR.out
        rw [if_neg (by simp)] at herr
        have HERR2 := Lib.hid herr
        clear hw herr
        go_upto_region 7 with fail
        rw [← hW2]
        clear hW2
        go_wp2_with fail
        refine HWL.out.mono ?_
        rintro e w3 ⟨rfl, q, rfl⟩
        go_wp2_with fail
        go_ret3
        exact ⟨_, by rw [HFIN.out, HERR2.out]; rfl, by rw [HFIN.out]; exact (ho.below HBB.out (Nat.le_refl _)).keep fun _ _ => rfl, below_drewN (HB.out.trans (HBB.out.mono HB.out.size)) _⟩
      | true =>
        rw [hw] at HWL HERR
        have herr := HERR.out
        rw [if_pos rfl] at herr
        have HERR2 := Lib.hid herr
        clear hw herr
        go_upto_region 7 with fail
        rw [← hW2]
        clear hW2
        go_wp2_with fail
        refine HWL.out.mono ?_
        rintro e w3 ⟨rfl, q, rfl⟩
        go_wp2_with fail
        go_ret3
        exact ⟨_, by rw [HFIN.out, HERR2.out]; rfl, by rw [HFIN.out]; exact (ho.below HBB.out (Nat.le_refl _)).keep fun _ _ => rfl, below_drewN (HB.out.trans (HBB.out.mono HB.out.size)) _⟩
    | true =>
      have HMN := Lib.hid (HM.out.step hone)
      obtain ⟨o1, o2, o3⟩ := one_size hone
      rw [hlen] at o3
      have hon := one_ok A1 (c - k) d (l.drop k) wj (by rw [hlen]; exact HT.out) (by omega) hone
      rw [hlen] at hon
      generalize oneF (l.drop k) = f1 at *
      generalize sizeAt (l.drop k) = z at *
      obtain ⟨fa, fb, fc, fd, ft, fk, fch, fp⟩ := f1
      simp only [Fr.vs] at hon
      have HON := Lib.hid hon
      have HKZ := Lib.hid (show k + z ≤ l.length ∧ 12 ≤ z by omega)
      have hz0 : ((z : Int) == 0) = false := by simp; omega
      clear hon o3 o2 o1 hone hlen
      obtain ⟨m, hm⟩ : ∃ m, m = k + z := ⟨_, rfl⟩
      rw [← hm] at HMN
      have HM2 := Lib.hid hm
      clear hm
      go_wp2_with fail
      refine HON.out.mono ?_
      rintro e w2 ⟨rfl, hb2⟩
      go_upto_region 5 with fail
      obtain ⟨W2, hW2⟩ : ∃ W2, W2 = w2.alloc (Obj.cells #[.bool fa, .bool fb, .bool fc, .bool fd, .int .u8 ft, .int .u8 fk, .int .u16 fch, .string fp] 44) := ⟨_, rfl⟩
      have hbA : Below w2.heap.size w2 W2 := by rw [hW2]; exact below_box _ _
      have hbW2 := hb2.trans (hbA.mono hb2.size)
      have HBOX : Hid (BoxF W2 w2.heap.size ⟨fa, fb, fc, fd, ft, fk, fch, fp⟩) := Lib.hid (by rw [hW2]; exact BoxF.new w2 ⟨fa, fb, fc, fd, ft, fk, fch, fp⟩)
      rw [← hW2]
      have HW2 := Lib.hid hW2
      have ho2 := ho.below hbW2 (Nat.le_refl _)
      have HB2 := Lib.hid (HB.out.trans (hbW2.mono HB.out.size))
      have hsW := hbW2.size
      have hsB := HB.out.size
      clear hW2 hbA hb2 ho hbW2
      have y0 := HBOX.out.c0
      have y1 := HBOX.out.c1
      have y2 := HBOX.out.c2
      have y3 := HBOX.out.c3
      have y4 := HBOX.out.c4
      have y5 := HBOX.out.c5
      have y6 := HBOX.out.c6
      have y7 := HBOX.out.c7
      have hfs : fs.length ≤ 1000000 := by omega
      go_upto_region 6 with (at_builtin; refine wpList_appendG frC _ rfl (.tmp 18) (.tmp 20) 51 rfl w.heap.size 44 (.agg #[.bool false, .bool false, .bool false, .bool false, .int .u8 0, .int .u8 0, .int .u16 0, .string ⟨#[]⟩]) 24 Try.underlying51 infoFr rfl _ fs rfl (ho2.alloc_ _) W2.heap.size (.slice (some ⟨W2.heap.size, 0, none⟩) 1 1) [⟨fa, fb, fc, fd, ft, fk, fch, fp⟩] rfl (ShowsG.lit (C := frC) [⟨fa, fb, fc, fd, ft, fk, fch, fp⟩] (by simp [Code.all, frC, Fr.vs]) (by simp [maxLen])) (by simp; omega) (by simp; omega) (by simp; omega) ?_; intro v4 w4 ho4 hg4)
      have hbA : Below W2.heap.size W2 (W2.alloc (Obj.cells #[.bool fa, .bool fb, .bool fc, .bool fd, .int .u8 ft, .int .u8 fk, .int .u16 fch, .string fp] 44)) := below_box _ _
      have hB4 := (HB2.out.trans (hbA.mono HB2.out.size)).grown hg4 (by have := hbA.size; omega) (fun q hq => (ho2.block q hq).1)
      have HB4 := Lib.hid hB4
      have hmi : (k : Int) + (z : Int) = (m : Int) := by have := HM2.out; omega
      have hml : m ≤ l.length := by have := HKZ.out.1; have := HM2.out; omega
      have hflen : 12 * (fs ++ [(⟨fa, fb, fc, fd, ft, fk, fch, fp⟩ : Fr)]).length ≤ m := HMN.out.2.1
      have HMZ := Lib.hid (show l.length - m < l.length - k by have := HKZ.out; have := HM2.out; omega)
      clear hg4 hbA hB4 ho2 y0 y1 y2 y3 y4 y5 y6 y7
      go_wp2_with fail
      go_roundw
      case rel => exact ⟨m, _, rfl, hml, hflen, HMN, ho4, HB4⟩
      case measure => simp [intOf]; exact HMZ.out

/-! ### rows of frames -/
section
variable {w : World} {d o : Nat} {l : List Fr}
theorem fr_cell (h : ∀ j (h : j < l.length) k, k < frC.sz → w.cell? ⟨d, o + (j * frC.sz + k), none⟩ = (frC.enc l[j])[k]?) {k : Nat} (hk : k < l.length) :
    w.cell? ⟨d, o + k * 8, none⟩ = some (.bool l[k].a) ∧ w.cell? ⟨d, o + k * 8 + 1, none⟩ = some (.bool l[k].b) ∧ w.cell? ⟨d, o + k * 8 + 2, none⟩ = some (.bool l[k].c) ∧ w.cell? ⟨d, o + k * 8 + 3, none⟩ = some (.bool l[k].d) ∧
    w.cell? ⟨d, o + k * 8 + 4, none⟩ = some (.int .u8 (l[k].t : Nat)) ∧ w.cell? ⟨d, o + k * 8 + 5, none⟩ = some (.int .u8 (l[k].k : Nat)) ∧ w.cell? ⟨d, o + k * 8 + 6, none⟩ = some (.int .u16 (l[k].ch : Nat)) ∧ w.cell? ⟨d, o + k * 8 + 7, none⟩ = some (.string l[k].p) :=
  ⟨h k hk 0 (by decide), h k hk 1 (by decide), h k hk 2 (by decide), h k hk 3 (by decide), h k hk 4 (by decide), h k hk 5 (by decide), h k hk 6 (by decide), h k hk 7 (by decide)⟩
end

end Go.Proofs.Ytlcggpobelbfcaa
