/-
  Texts, together: FrG, FrH.
  Conditions: none but sizes.
-/
import Derived.Deep.DeepCutAuto
import Derived.Test.YtdjahdnaihijjaaGreatDoorFrPZ
import Derived.Deep.LoopGhost
import Derived.Deep.QuietTactic
import Derived.BigQuiet
import Derived.Test.YtdjahdnaihijjaaGreatDoorFrFZ
/-
  The contract of frame.Scan.
  Conditions: at most 1000000 bytes.
-/
namespace Go.Proofs.YtdjahdnaihijjaaGreatDoor
open Go.RowKit
set_option linter.unusedVariables false
set_option linter.unusedSimpArgs false

theorem infoFr : (Tryz.prog.info? 51).map (fun i => (i.zero, i.size, i.bytes)) = some (some (.agg #[.bool false, .bool false, .bool false, .bool false, .int .u8 0, .int .u8 0, .int .u16 0, .string ⟨#[]⟩]), 8, 24) := by kernel_rfl

/-- What Scan says. -/
def ScanSaid (l : List UInt8) (w : World) (e : Ending) (w' : World) : Prop :=
  ∃ v, e = .returned (.tuple #[v, .int .i64 (scanD l).2, .int .i64 (errD l)]) ∧ OwnG frC 51 w' w.heap.size v (scanD l).1 ∧ Below w.heap.size w w'

/-- The bytes behind a place, and these again. -/
theorem tail_at {w : World} {d c : Nat} {A : Option Addr} {l : List UInt8} (h : Shows w d (.slice A l.length c) l) (k : Nat) (hk : k ≤ l.length) (A' : Option Addr) (hA : (if c = k then A else Option.map (fun x => x.add k) A) = A') :
    Shows w d (.slice A' (l.length - k) (c - k)) (l.drop k) :=
  h.tail hk A' (fun hne => by rw [← hA, if_neg hne])

set_option maxRecDepth 100000 in
set_option maxHeartbeats 8000000 in
theorem scan_any (A : Option Addr) (c d : Nat) (l : List UInt8) (w : World) (h : Shows w d (.slice A l.length c) l) (hl : l.length ≤ 1000000) :
    Calls Tryz.prog 10 #[.slice A l.length c] w (ScanSaid l w) := by
  obtain ⟨hl1, hlc, hcm⟩ := h.lens
  have HS := Lib.hid (fun w' (hb : Below w.heap.size w w') => (h.keep hb.size fun hp => hb.block d (h.lt hp) : Shows w' d (.slice A l.length c) l))
  have HRU := Lib.hid (fun w => rules_any w)
  unfold ScanSaid
  have HM0 := Lib.hid (Mid.start l)
  clear h
  go_enter Tryz.func10, Tryz.ntmps10
  go_wp2_with fail
  refine (HRU.out _).mono ?_
  rintro e w1 ⟨rv, rfl, hrules, hb1⟩
  have HB1 := Lib.hid hb1
  have HR1 := Lib.hid hrules
  clear hrules hb1
  go_wp2_with fail
  go_loopw [5, 6] (fun x i wr => ∃ (k : Nat) (fs : List Fr), i = .int .i64 k ∧ k ≤ l.length ∧ 12 * fs.length ≤ k ∧ Hid (Mid l fs k) ∧ OwnG frC 51 wr w1.heap.size x fs ∧ Hid (Below w1.heap.size w1 wr)) (fun _ i _ => l.length - (intOf i).toNat)
  case atStart => exact ⟨0, [], rfl, Nat.zero_le _, Nat.zero_le _, HM0, OwnG.nil_ _ _ _ _, Lib.hid (Below.refl _ _)⟩
  case round =>
    obtain ⟨k, fs, rfl, hk, hfk, HM, ho, HBW⟩ := hrel
    rename World => wj
    have HB := Lib.hid (HB1.out.trans (HBW.out.mono HB1.out.size))
    have HR := Lib.hid (HR1.out.kept HBW.out (Nat.le_refl _))
    have HS1 := Lib.hid (HS.out wj HB.out)
    obtain ⟨A1, hA1⟩ : ∃ A1, (if c = k then A else Option.map (fun x => x.add k) A) = A1 := ⟨_, rfl⟩
    have HT := Lib.hid (tail_at HS1.out k hk A1 hA1)
    have hlen : (l.drop k).length = l.length - k := List.length_drop
    have HL := Lib.hid hlen
    have hst := start_any A1 (c - k) d (l.drop k) rv wj (by rw [hlen]; exact HT.out) (by omega) HR.out
    have hwh := whole_any A1 (c - k) d (l.drop k) wj (by rw [hlen]; exact HT.out) (by omega)
    rw [hlen] at hst hwh
    have HST := Lib.hid hst
    have HWH := Lib.hid hwh
    have HOB := Lib.hid ho.block
    clear hst hwh hlen
    cases hw : wellD (l.drop k) with
    | false =>
      have hone := isOne_well hw
      have hfin := HM.out.last hone
      have herr := HM.out.err hone
      rw [hw] at HST herr
      rw [if_neg (by simp)] at herr
      have HFIN := Lib.hid hfin
      have HERR := Lib.hid herr
      clear hw hone hfin herr
      go_wp2_with fail
      refine HST.out.mono ?_
      rintro e wx ⟨rfl, rfl⟩
      go_wp2_with fail
      go_ret3
      refine ⟨_, by rw [HFIN.out, HERR.out]; rfl, by rw [HFIN.out]; exact ho.mono HB1.out.size, HB.out⟩
    | true =>
      rw [hw] at HST
      cases hone : isOne (l.drop k) with
      | false =>
        have hd : decide (12 ≤ l.length - k ∧ sizeAt (l.drop k) ≤ l.length - k) = false := by
          have h1 : ¬ (12 ≤ (l.drop k).length ∧ sizeAt (l.drop k) ≤ (l.drop k).length) := fun h2 => by
            have := (isOne_iff (l.drop k)).2 ⟨h2.1, hw, h2.2⟩
            rw [hone] at this
            cases this
          rw [HL.out] at h1
          exact decide_eq_false h1
        rw [hd] at HWH
        have hfin := HM.out.last hone
        have herr := HM.out.err hone
        rw [hw, if_pos rfl] at herr
        have HFIN := Lib.hid hfin
        have HERR := Lib.hid herr
        clear hw hone hfin herr hd
        generalize (if l.length - k < 12 then 0 else sizeAt (l.drop k)) = z0 at *
        go_wp2_with fail
        refine HST.out.mono ?_
        rintro e wx ⟨rfl, rfl⟩
        go_wp2_with fail
        refine HWH.out.mono ?_
        rintro e w2 ⟨rfl, hb2⟩
        go_wp2_with fail
        go_ret3
        refine ⟨_, by rw [HFIN.out, HERR.out]; rfl, by rw [HFIN.out]; exact (ho.below hb2 (Nat.le_refl _)).mono HB1.out.size, HB.out.trans (hb2.mono HB.out.size)⟩
      | true =>
        have HMN := Lib.hid (HM.out.step hone)
        obtain ⟨o1, o2, o3⟩ := one_size hone
        rw [HL.out] at o3
        have hd : decide (12 ≤ l.length - k ∧ sizeAt (l.drop k) ≤ l.length - k) = true := by simp; omega
        rw [hd, if_neg (by omega)] at HWH
        have hof : oneF (l.drop k) = decD ((l.drop k).take (sizeAt (l.drop k))) := by unfold oneF; rw [if_pos hone]
        have hsh : ∀ w', Below wj.heap.size wj w' → Shows w' d (.slice A1 (sizeAt (l.drop k)) (c - k)) ((l.drop k).take (sizeAt (l.drop k))) := fun w' hb' =>
          (tail_at (HS.out w' (HB.out.trans (hb'.mono HB.out.size))) k hk A1 hA1).head (by rw [List.length_drop]; omega)
        have hzl : ((l.drop k).take (sizeAt (l.drop k))).length = sizeAt (l.drop k) := by simp; omega
        have hdec := fun w' (hb' : Below wj.heap.size wj w') => decoded_any A1 (c - k) d ((l.drop k).take (sizeAt (l.drop k))) w' (by rw [hzl]; exact hsh w' hb') (by omega) (by omega)
        rw [hzl, ← hof] at hdec
        have HDEC := Lib.hid hdec
        clear hd hof hsh hdec hw hone hzl
        generalize oneF (l.drop k) = f1 at *
        generalize sizeAt (l.drop k) = z at *
        obtain ⟨fa, fb, fc, fd, ft, fk, fch, fp⟩ := f1
        simp only [Fr.vs] at HDEC
        have HKZ := Lib.hid (show k + z ≤ l.length ∧ 12 ≤ z by omega)
        clear o3 o2 o1
        go_wp2_with fail
        refine HST.out.mono ?_
        rintro e wx ⟨rfl, rfl⟩
        go_wp2_with fail
        refine HWH.out.mono ?_
        rintro e w2 ⟨rfl, hb2⟩
        go_upto_region 8 with fail
        obtain ⟨m, hm⟩ : ∃ m, m = k + z := ⟨_, rfl⟩
        have hmk : k ≤ m := by omega
        have hml : m ≤ l.length := by have := HKZ.out.1; omega
        have hmi : (k : Int) + (z : Int) = (m : Int) := by omega
        have hmz : m - k = z := by omega
        have hfs : fs.length ≤ 1000000 := by omega
        rw [← hm] at HMN
        have HM2 := Lib.hid hm
        clear hm
        have hbs2 := hb2.size
        have HB2 := Lib.hid (HBW.out.trans (hb2.mono HBW.out.size))
        have HDE := Lib.hid (HDEC.out w2 hb2)
        have HO2 := Lib.hid (ho.below hb2 (Nat.le_refl _))
        clear ho hb2
        go_wp2_with fail
        refine HDE.out.mono ?_
        rintro e w3 ⟨rfl, hb3⟩
        have hbs3 := hb3.size
        have ho3 := HO2.out.below hb3 (Nat.le_refl _)
        have HB3 := Lib.hid (HB2.out.trans (hb3.mono HB2.out.size))
        have hw3 : w1.heap.size ≤ w3.heap.size := HB3.out.size
        clear hb3 hmi hmz
        go_upto_region 9 with (at_builtin; refine wpList_appendG frC _ rfl (.tmp 27) (.tmp 35) 42 rfl w1.heap.size 51 (.agg #[.bool false, .bool false, .bool false, .bool false, .int .u8 0, .int .u8 0, .int .u16 0, .string ⟨#[]⟩]) 24 Tryz.underlying42 infoFr rfl _ fs rfl (ho3.alloc_ _) w3.heap.size (.slice (some ⟨w3.heap.size, 0, none⟩) 1 1) [⟨fa, fb, fc, fd, ft, fk, fch, fp⟩] rfl (ShowsG.lit (C := frC) [⟨fa, fb, fc, fd, ft, fk, fch, fp⟩] (by simp [Code.all, frC, Fr.vs]) (by simp [maxLen])) (by simp; omega) (by simp; omega) (by simp; omega) ?_; intro v4 w4 ho4 hg4)
        have hbA : Below w3.heap.size w3 (w3.alloc (Obj.cells #[.bool fa, .bool fb, .bool fc, .bool fd, .int .u8 ft, .int .u8 fk, .int .u16 fch, .string fp] 51)) := f_below_box _ _
        have hB4 := (HB3.out.trans (hbA.mono HB3.out.size)).grown hg4 (by have := hbA.size; omega) (fun q hq => (ho3.block q hq).1)
        have HB4 := Lib.hid hB4
        have hmi : (k : Int) + (z : Int) = (m : Int) := by have := HM2.out; omega
        have hflen : 12 * (fs ++ [(⟨fa, fb, fc, fd, ft, fk, fch, fp⟩ : Fr)]).length ≤ m := HMN.out.2.1
        have hzz := HKZ.out.2
        have HMZ := Lib.hid (show l.length - m < l.length - k by have := HKZ.out.1; have := HM2.out; omega)
        clear hg4 hbA hB4 ho3 hzz
        go_wp2_with fail
        go_roundw
        case rel => exact ⟨m, _, rfl, hml, hflen, HMN, ho4, HB4⟩
        case measure => simp [intOf]; exact HMZ.out

end Go.Proofs.YtdjahdnaihijjaaGreatDoor
/-
  The contracts of the document's own Scan and Same for frames.
  Conditions: at most 1000000 bytes.
-/
namespace Go.Proofs.YtdjahdnaihijjaaGreatDoor
open Go.RowKit
set_option linter.unusedVariables false
set_option linter.unusedSimpArgs false

/-! ### rows of frames -/
section
variable {w : World} {d o : Nat} {l : List Fr}
theorem fr_cell (h : ∀ j (h : j < l.length) k, k < frC.sz → w.cell? ⟨d, o + (j * frC.sz + k), none⟩ = (frC.enc l[j])[k]?) {k : Nat} (hk : k < l.length) :
    w.cell? ⟨d, o + k * 8, none⟩ = some (.bool l[k].a) ∧ w.cell? ⟨d, o + k * 8 + 1, none⟩ = some (.bool l[k].b) ∧ w.cell? ⟨d, o + k * 8 + 2, none⟩ = some (.bool l[k].c) ∧ w.cell? ⟨d, o + k * 8 + 3, none⟩ = some (.bool l[k].d) ∧
    w.cell? ⟨d, o + k * 8 + 4, none⟩ = some (.int .u8 (l[k].t : Nat)) ∧ w.cell? ⟨d, o + k * 8 + 5, none⟩ = some (.int .u8 (l[k].k : Nat)) ∧ w.cell? ⟨d, o + k * 8 + 6, none⟩ = some (.int .u16 (l[k].ch : Nat)) ∧ w.cell? ⟨d, o + k * 8 + 7, none⟩ = some (.string l[k].p) :=
  ⟨h k hk 0 (by decide), h k hk 1 (by decide), h k hk 2 (by decide), h k hk 3 (by decide), h k hk 4 (by decide), h k hk 5 (by decide), h k hk 6 (by decide), h k hk 7 (by decide)⟩
end

end Go.Proofs.YtdjahdnaihijjaaGreatDoor
