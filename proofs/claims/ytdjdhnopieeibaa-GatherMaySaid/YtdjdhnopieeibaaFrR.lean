/-
  The contract of the law's own bytes.
  Conditions: at most 2000 frames.
-/
import Derived.Test.YtdjdhnopieeibaaFrQ
namespace Go.Proofs.Ytdjdhnopieeibaa
open Go.RowKit
set_option linter.unusedVariables false
set_option linter.unusedSimpArgs false

/-- Those that may be put. -/
def mayL (l : List Fr) : List Fr := l.filter fun f => decide (checkF f = 0)
theorem mayL_snoc (l : List Fr) (k : Nat) (h : k < l.length) : mayL (l.take (k + 1)) = mayL (l.take k) ++ (if checkF l[k] = 0 then [l[k]] else []) := by
  unfold mayL
  rw [List.take_succ_eq_append_getElem h, List.filter_append]
  congr 1
  by_cases hc : checkF l[k] = 0
  · simp [List.filter, hc]
  · simp [List.filter, hc]
theorem mayL_may {l : List Fr} (h : ∀ f ∈ l, f.ok) : ∀ f ∈ mayL l, f.may := fun f hf => by
  unfold mayL at hf
  rw [List.mem_filter] at hf
  exact ⟨h f hf.1, by simpa using hf.2⟩
theorem mayL_all {l : List Fr} (h : ∀ f ∈ l, f.may) : mayL l = l := by
  unfold mayL
  rw [List.filter_eq_self]
  intro f hf
  simpa using (h f hf).2
theorem mayL_len (l : List Fr) : (mayL l).length ≤ l.length := List.length_filter_le _ _

/-- A row of bytes and one of frames lie apart. -/
theorem rows_apart {w : World} {b1 b2 : Nat} {v1 v2 : Value} {l1 : List UInt8} {l2 : List Fr} (h1 : Own 5 w b1 v1 l1) (h2 : OwnG frC 40 w b2 v2 l2) : ∀ g, v1.ownBlock = some g → v2.ownBlock ≠ some g := by
  intro g hg1 hg2
  rcases h1.2 with ⟨rfl, _⟩ | ⟨g1, c1, cur1, rfl, _, hh1, _⟩
  · cases hg1
  · rcases h2.2 with ⟨rfl, _⟩ | ⟨g2, c2, cur2, rfl, _, hh2, _⟩
    · cases hg2
    · simp only [Value.ownBlock, Option.some.injEq] at hg1 hg2
      subst hg1
      subst hg2
      rw [hh1] at hh2
      simp at hh2
theorem shows_keepG {w w' : World} {d : Nat} {v : Value} {l : List Fr} (h : ShowsG frC w d v l) (hb : Below w.heap.size w w') : ShowsG frC w' d v l := h.keep hb.size fun hp => hb.block d (h.lt hp)

set_option maxRecDepth 100000 in
set_option maxHeartbeats 4000000 in
theorem fbytes_any (A : Option Addr) (c d : Nat) (l : List Fr) (w : World) (h : ShowsG frC w d (.slice A l.length c) l) (hl : l.length ≤ 2000) (hok : ∀ f ∈ l, f.ok) :
    Calls Try.prog 16 #[.slice A l.length c] w fun e w' => ∃ v1 v2, e = .returned (.tuple #[v1, v2]) ∧ Own 5 w' w.heap.size v1 (encL (mayL l)) ∧ OwnG frC 40 w' w.heap.size v2 (mayL l) ∧ Below w.heap.size w w' := by
  obtain ⟨_, hlc, hcm⟩ := h.lens
  have HS := Lib.hid (fun w' (hb : Below w.heap.size w w') => shows_keepG h hb)
  have HOK := Lib.hid hok
  have HEL := Lib.hid (fun k => encL_len (mayL (l.take k)) (mayL_may (fun f hf => hok f (List.mem_of_mem_take hf))))
  have HML := Lib.hid (fun k => mayL_len (l.take k))
  clear h hok
  go_enter Try.func16, Try.ntmps16
  go_wp2_with fail
  go_loopw [4, 5, 6] (fun x y i wr => ∃ k : Nat, k ≤ l.length ∧ i = .int .i64 k ∧ Own 5 wr w.heap.size x (encL (mayL (l.take k))) ∧ OwnG frC 40 wr w.heap.size y (mayL (l.take k)) ∧ Hid (Below w.heap.size w wr)) (fun _ _ i _ => l.length - (intOf i).toNat)
  case atStart => exact ⟨0, Nat.zero_le _, rfl, Own.nil_ _ _ _, OwnG.nil_ _ _ _ _, Lib.hid (Below.refl _ _)⟩
  case round =>
    obtain ⟨k, hk, rfl, ho, hg, HB⟩ := hrel
    rename World => wj
    by_cases hlt : k < l.length
    · have hkl : (k : Int) < (l.length : Int) := by omega
      have HSN := Lib.hid (mayL_snoc l k hlt)
      have hfo := HOK.out _ (List.getElem_mem hlt)
      obtain ⟨o, rfl, hdj, hcl⟩ := (HS.out wj HB.out).at_ (by omega)
      obtain ⟨x0, x1, x2, x3, x4, x5, x6, x7⟩ := fr_cell hcl hlt
      have HCL := Lib.hid (fun w' (hb : Below w.heap.size w w') => by
        obtain ⟨o', e', _, hcl'⟩ := (HS.out w' hb).at_ (by omega)
        cases e'
        exact fr_cell hcl' hlt)
      have hel := HEL.out k
      have hml := HML.out k
      rw [List.length_take] at hml
      have helB : (encL (mayL (l.take k))).length ≤ 8192000 := by omega
      have hmlB : (mayL (l.take k)).length ≤ 2000 := by omega
      clear hel hml hcl
      have HOK1 := Lib.hid (fun w (hc : checkF l[k] = 0) => fput_ok l[k] w hfo hc)
      have HNO1 := Lib.hid (fun w (hc : checkF l[k] ≠ 0) => fput_no l[k] w hfo hc)
      have hsize : checkF l[k] = 0 → (encF l[k]).length ≤ 4096 := fun hc => by
        rw [encF_length]
        have := checkF_le hc
        omega
      generalize l[k] = f at *
      obtain ⟨fa, fb, fc, fd, ft, fk, fch, fp⟩ := f
      simp only [Fr.vs] at *
      have HOB := Lib.hid ho.block
      have HGB := Lib.hid hg.block
      by_cases hc : checkF ⟨fa, fb, fc, fd, ft, fk, fch, fp⟩ = 0
      · have hsn := HSN.out
        rw [if_pos hc] at hsn
        have HSN2 := Lib.hid hsn
        have HP := Lib.hid (fun w => HOK1.out w hc)
        have hszl := hsize hc
        clear hsn hc HOK1 HNO1 hsize HSN
        have hE : encL (mayL (l.take k) ++ [(⟨fa, fb, fc, fd, ft, fk, fch, fp⟩ : Fr)]) = encL (mayL (l.take k)) ++ encF ⟨fa, fb, fc, fd, ft, fk, fch, fp⟩ := encL_snoc _ _
        have HE := Lib.hid hE
        generalize encF ⟨fa, fb, fc, fd, ft, fk, fch, fp⟩ = X at *
        generalize encL (mayL (l.take k)) = E0 at *
        generalize mayL (l.take k) = M0 at *
        clear hE
        go_wp2_with fail
        refine (HP.out _).mono ?_
        rintro e w2 ⟨vx, rfl, hox, hb2⟩
        obtain ⟨gx, _, hsx⟩ := hox.shows
        have ho2 := ho.below hb2 (Nat.le_refl _)
        have hg2 := hg.below hb2 (Nat.le_refl _)
        have HB2 := Lib.hid (HB.out.trans (hb2.mono HB.out.size))
        have HB12 := Lib.hid hb2
        have hsz2 := hb2.size
        have hszw := HB.out.size
        clear ho hg hox x0 x1 x2 x3 x4 x5 x6 x7 hb2
        go_upto_region 9 with (at_builtin; refine wpList_append8 _ rfl (.tmp 25) (.tmp 26) 22 rfl w.heap.size 5 Try.underlying22 info5 _ _ rfl ho2 gx vx X rfl hsx (by omega) (by omega) ?_; intro v3 w3 ho3 hg3)
        have hap := rows_apart ho2 hg2
        have hgg : OwnG frC 40 w3 w.heap.size u5 M0 := hg2.kept hg3 (by
          cases hb : u5.ownBlock with
          | none => exact .inl rfl
          | some g => exact .inr (fun e => hap g e.symm hb))
        have HB3 := Lib.hid (HB2.out.grown hg3 HB2.out.size (fun q hq => (ho2.block q hq).1))
        obtain ⟨x0, x1, x2, x3, x4, x5, x6, x7⟩ := HCL.out w3 HB3.out
        have hsz3 := hg3.size
        have HO3 := Lib.hid ho3
        clear hg3 hg2 ho2 hap ho3 hsx
        go_upto_region 5 with (at_builtin; refine wpList_appendG frC _ rfl (.tmp 28) (.tmp 33) 37 rfl w.heap.size 40 (.agg #[.bool false, .bool false, .bool false, .bool false, .int .u8 0, .int .u8 0, .int .u16 0, .string ⟨#[]⟩]) 24 Try.underlying37 infoFr rfl _ M0 rfl (hgg.alloc_ _) w3.heap.size (.slice (some ⟨w3.heap.size, 0, none⟩) 1 1) [⟨fa, fb, fc, fd, ft, fk, fch, fp⟩] rfl (ShowsG.lit (C := frC) [⟨fa, fb, fc, fd, ft, fk, fch, fp⟩] (by simp [Code.all, frC, Fr.vs]) (by simp [maxLen])) (by simp; omega) (by simp; omega) (by simp; omega) ?_; intro v4 w4 hg4 hgr4)
        have hap3 := rows_apart (HO3.out.alloc_ (Obj.cells #[.bool fa, .bool fb, .bool fc, .bool fd, .int .u8 ft, .int .u8 fk, .int .u16 fch, .string fp] 40)) (hgg.alloc_ (Obj.cells #[.bool fa, .bool fb, .bool fc, .bool fd, .int .u8 ft, .int .u8 fk, .int .u16 fch, .string fp] 40))
        have ho4 : Own 5 w4 w.heap.size v3 (E0 ++ X) := (HO3.out.alloc_ _).kept hgr4 (by
          cases hb : v3.ownBlock with
          | none => exact .inl rfl
          | some g => exact .inr (fun e => hap3 g hb e.symm))
        have hbA : Below w3.heap.size w3 (w3.alloc (Obj.cells #[.bool fa, .bool fb, .bool fc, .bool fd, .int .u8 ft, .int .u8 fk, .int .u16 fch, .string fp] 40)) := below_box _ _
        have HB4 := Lib.hid ((HB3.out.trans (hbA.mono HB3.out.size)).grown hgr4 (by have := hbA.size; have := HB3.out.size; omega) (fun q hq => (hgg.block q hq).1))
        clear hgr4 hap3 hbA hgg x0 x1 x2 x3 x4 x5 x6 x7
        go_wp2_with fail
        go_roundw
        case rel => exact ⟨k + 1, by omega, by go_num, by rw [HSN2.out, HE.out]; exact ho4, by rw [HSN2.out]; exact hg4, HB4⟩
        case measure => simp [intOf]; omega
      · have hsn := HSN.out
        rw [if_neg hc, List.append_nil] at hsn
        have HSN2 := Lib.hid hsn
        have HP := Lib.hid (fun w => HNO1.out w hc)
        clear hsn hc HOK1 HNO1 hsize HSN
        generalize mayL (l.take k) = M0 at *
        go_wp2_with fail
        refine (HP.out _).mono ?_
        rintro e w2 ⟨rfl, hb2⟩
        have ho2 := ho.below hb2 (Nat.le_refl _)
        have hg2 := hg.below hb2 (Nat.le_refl _)
        have HB2 := Lib.hid (HB.out.trans (hb2.mono HB.out.size))
        clear ho hg hb2 x0 x1 x2 x3 x4 x5 x6 x7
        go_wp2_with fail
        go_roundw
        case rel => exact ⟨k + 1, by omega, by go_num, by rw [HSN2.out]; exact ho2, by rw [HSN2.out]; exact hg2, HB2⟩
        case measure => simp [intOf]; omega
    · have hkl : ¬ (k : Int) < (l.length : Int) := by omega
      obtain rfl : k = l.length := by omega
      rw [List.take_length] at ho hg
      clear hlt
      go_wp2_with fail
      go_ret2
      exact ⟨_, _, rfl, ho, hg, HB.out⟩

end Go.Proofs.Ytdjdhnopieeibaa
