/-
  For at most 40 pieces of at most 500 bytes: scanned piece by piece, each with what was left, the frames are those of all bytes, and so is the error.
  Conditions: none.
-/
import Derived.Test.YtlcggpobelbfcaaFrW
import Derived.Test.YtlcggpobelbfcaaFrO
import Derived.Deep.CutRange
import Derived.Deep.CutBlock
import Derived.Deep.DeepCutAuto
namespace Go.Proofs.Ytlcggpobelbfcaa
open Go.ChangeShapes Go.WideShapes Go.ChangeAt Go.RowKit
open Go.ChangeMaps (open_string shut_string)
set_option linter.unusedVariables false
set_option linter.unusedSimpArgs false

/-- In the midst of the pieces: all bytes so far, what is left, the frames, the error. -/
def Pcs (all rest : List UInt8) (got : List Fr) (bad : Nat) : Prop :=
  got = (scanD all).1 ∧ bad = errD all ∧ (bad = 0 → rest = all.drop (scanD all).2)
theorem Pcs.start : Pcs [] [] [] 0 := by
  refine ⟨?_, ?_, fun _ => ?_⟩
  · rw [scanD_no isOne_nil]
  · unfold errD; rw [scanD_no isOne_nil]; decide
  · rw [scanD_no isOne_nil]; rfl
theorem Pcs.worse {all rest : List UInt8} {got : List Fr} {bad : Nat} (h : Pcs all rest got bad) (hb : bad ≠ 0) (p : List UInt8) : Pcs (all ++ p) rest got bad := by
  obtain ⟨h1, h2, h3⟩ := h
  have h4 : errD all = 60 := by
    rcases err_cases all with h4 | h4
    · rw [h4] at h2; exact absurd h2 hb
    · exact h4
  obtain ⟨h5, h6⟩ := scan_bad h4 p
  exact ⟨by rw [h5]; exact h1, by rw [h6, h2, h4], fun h => absurd h hb⟩
theorem Pcs.next {all rest : List UInt8} {got : List Fr} (h : Pcs all rest got 0) (p : List UInt8) :
    Pcs (all ++ p) ((rest ++ p).drop (scanD (rest ++ p)).2) (got ++ (scanD (rest ++ p)).1) (errD (rest ++ p)) := by
  obtain ⟨h1, h2, h3⟩ := h
  have h4 := h3 rfl
  subst h4
  refine ⟨?_, ?_, fun _ => ?_⟩
  · rw [scan_more' all p, h1]
  · exact (err_more all p).symm
  · rw [scan_more' all p]
    simp only []
    rw [← List.drop_drop, List.drop_append_of_le_length (scan_le all)]

set_option maxRecDepth 100000 in
set_option maxHeartbeats 8000000 in
theorem fpieces_walk (A : Option Addr) (n c d : Nat) (V : Nat → Value) (L : Nat → List UInt8) (D : Nat → Nat) (w : World) (h : ShowsN w d (.slice A n c) n 1 (fun i _ => V i)) (hnc : n ≤ c) (hel : ∀ i, i < n → Shows w (D i) (V i) (L i)) :
    Calls Try.prog 9 #[.slice A n c] w fun e w' => e = .returned (.bool true) ∧ Below w.heap.size w w' := by
  have hcm : c ≤ maxLen := by obtain ⟨_, _, e, _, hcm, _⟩ := h; cases e; exact hcm
  have HH := Lib.hid fhead_any
  by_cases hlong : 40 < n
  · have hi : (40 : Int) < (n : Int) := by omega
    clear h hel
    go_enter Try.func9, Try.ntmps9
    go_wp2_with fail
    refine (HH.out _).mono ?_
    rintro e w4 ⟨rfl, hb4⟩
    go_wp2_with fail
    go_ret
    exact ⟨rfl, hb4⟩
  · have hi : ¬ (40 : Int) < (n : Int) := by omega
    have HS := Lib.hid (fun w' (hb : Below w.heap.size w w') => h.below hb)
    have HE := Lib.hid (fun i (hi : i < n) w' (hb : Below w.heap.size w w') => shows_kept (hel i hi) hb)
    have HSC := Lib.hid (fun A c d l w h hl => scan_any A c d l w h hl)
    unfold ScanSaid at HSC
    have HP0 := Lib.hid Pcs.start
    clear h hel
    go_enter Try.func9, Try.ntmps9
    go_wp2_with fail
    go_loopw [3, 4, 5, 6, 7] (fun x3 x4 x5 x6 x7 wr => ∃ (k E : Nat) (a r : List UInt8) (G : List Fr), x7 = .int .i64 k ∧ k ≤ n ∧ a.length ≤ 500 * k ∧ r.length ≤ a.length ∧ 12 * G.length ≤ a.length ∧ x6 = .int .i64 E ∧ (E = 0 ∨ E = 60) ∧
      Own 5 wr w.heap.size x3 a ∧ Own 5 wr w.heap.size x4 r ∧ OwnG frC 44 wr w.heap.size x5 G ∧ Hid (Apt x3 x4) ∧ Hid (Pcs a r G E) ∧ Hid (Below w.heap.size w wr)) (fun _ _ _ _ x7 _ => n - (intOf x7).toNat)
    case atStart => exact ⟨0, 0, [], [], [], rfl, Nat.zero_le _, Nat.zero_le _, Nat.le_refl _, Nat.le_refl _, rfl, .inl rfl, Own.nil_ _ _ _, Own.nil_ _ _ _, OwnG.nil_ _ _ _ _, Lib.hid (fun g h => by cases h), HP0, Lib.hid (Below.refl _ _)⟩
    case round =>
      obtain ⟨k, E, a, r, G, rfl, hk, hak, hra, hGa, rfl, hE, h3, h4, h5, HAP, HPC, HB⟩ := hrel
      rename World => wj
      by_cases hlt : k < n
      · have hkn : (k : Int) < (n : Int) := by omega
        obtain ⟨o, rfl, hdj, hcl⟩ := (HS.out wj HB.out).at_ (by omega)
        have hck : wj.cell? ⟨d, o + k, none⟩ = some (V k) := by
          have := hcl k 0 hlt (by decide)
          rw [Nat.mul_one, Nat.add_zero] at this
          exact this
        have hsk := HE.out k hlt wj HB.out
        have HSK := Lib.hid hsk
        obtain ⟨Ak, ck, hvk, hkc, hkm, _⟩ := hsk
        rw [hvk] at hck HSK
        have hVK := Lib.hid hvk
        clear hcl hvk
        generalize hp : L k = p at *
        have HP := Lib.hid hp
        clear hp
        by_cases hbig : 500 < p.length
        · have hbi : (500 : Int) < (p.length : Int) := by omega
          go_wp2_with fail
          refine (HH.out _).mono ?_
          rintro e w4 ⟨rfl, hb4⟩
          go_wp2_with fail
          go_ret
          exact ⟨rfl, HB.out.trans (hb4.mono HB.out.size)⟩
        · have hbi : ¬ (500 : Int) < (p.length : Int) := by omega
          have hal : a.length + p.length ≤ 500 * (k + 1) := by omega
          have hszw := HB.out.size
          go_upto_region 12 with (at_builtin; refine wpList_append8W _ rfl (.tmp 31) (.tmp 35) 22 rfl w.heap.size 5 Try.underlying22 info5 _ a rfl h3 (D k) _ p rfl HSK.out (by omega) (by omega) ?_; intro v3 w3 ho3 hg3 hwh3)
          have HB3 := Lib.hid (HB.out.grown hg3 HB.out.size (fun q hq => (h3.block q hq).1))
          have ho4 := h4.kept hg3 HAP.out.ne
          have ho5 := h5.kept hg3 (Apt.ne (rows_apart h3 h5))
          have HAP3 : Hid (Apt v3 u4) := Lib.hid (HAP.out.grow hwh3 h4)
          have hsz3 := hg3.size
          have HSK3 := Lib.hid (HE.out k hlt w3 HB3.out)
          rw [hVK.out, HP.out] at HSK3
          have hck3 : w3.cell? ⟨d, o + k, none⟩ = some (.slice Ak p.length ck) := by
            obtain ⟨o', e', _, hcl'⟩ := (HS.out w3 HB3.out).at_ (by omega)
            cases e'
            have := hcl' k 0 hlt (by decide)
            rw [Nat.mul_one, Nat.add_zero, hVK.out] at this
            exact this
          have hlap : (a ++ p).length ≤ 500 * (k + 1) := by rw [List.length_append]; exact hal
          clear hg3 hwh3 h3 h4 h5 hck HSK hdj HAP
          rcases hE with rfl | rfl
          · generalize hR : r ++ p = R at *
            have hRl : R.length ≤ (a ++ p).length := by rw [← hR]; simp; omega
            have HRR := Lib.hid hR
            have hrl : r.length + p.length ≤ 140737488355328 := by omega
            go_upto_region 14 with (at_builtin; refine wpList_append8W _ rfl (.tmp 39) (.tmp 43) 22 rfl w.heap.size 5 Try.underlying22 info5 _ r rfl ho4 (D k) _ p rfl HSK3.out hrl (by omega) ?_; intro v4 w4 o4 hg4 hwh4)
            rw [hR] at o4
            have HB4 := Lib.hid (HB3.out.grown hg4 HB3.out.size (fun q hq => (ho4.block q hq).1))
            have o3 := ho3.kept hg4 (Apt.ne HAP3.out.symm)
            have o5 := ho5.kept hg4 (Apt.ne (rows_apart ho4 ho5))
            have HAP4 : Hid (Apt v4 v3) := Lib.hid (HAP3.out.symm.grow hwh4 ho3)
            have hNX := HPC.out.next p
            rw [hR] at hNX
            have hle := scan_le R
            have hsl := scan_len R
            obtain ⟨g4, _, hs4⟩ := o4.shows
            obtain ⟨A4, c4, hv4, hrc, hcm4⟩ := o4.form
            subst hv4
            have HC := Lib.hid (HSC.out A4 c4 g4 R w4 hs4 (by omega))
            have hec := err_cases R
            generalize errD R = er at *
            generalize hsd : scanD R = sd at *
            have HSD := Lib.hid hsd
            obtain ⟨fs, m⟩ := sd
            simp only [] at HC hNX hle hsl
            have HNX := Lib.hid hNX
            have O3 := Lib.hid o3
            have O4 := Lib.hid o4
            have O5 := Lib.hid o5
            have hfl : fs.length ≤ 2000 := by omega
            have hGl : G.length ≤ 2000 := by omega
            clear hg4 hwh4 hNX hsd hR ho3 ho4 ho5 hs4 hck3 o3 o4 o5 hal
            go_wp2_with fail
            refine HC.out.mono ?_
            rintro e w5 ⟨v8, rfl, ho8, hb5⟩
            have HB5 := Lib.hid (HB4.out.trans (hb5.mono HB4.out.size))
            have p3 := O3.out.below hb5 (Nat.le_refl _)
            have p4 := O4.out.below hb5 (Nat.le_refl _)
            have p5 := O5.out.below hb5 (Nat.le_refl _)
            obtain ⟨g8, _, hs8⟩ := ho8.shows
            have hsz5 := HB5.out.size
            have hm0 : ¬ (m : Int) < 0 := by omega
            have hmR : ¬ R.length < m := by omega
            have hGf : (G.length + fs.length) * 24 ≤ 140737488355328 := by omega
            have hGf2 : G.length + fs.length ≤ 140737488355328 := by omega
            clear hb5 ho8
            go_upto_region 18 with (at_builtin; refine wpList_appendG frC _ rfl (.tmp 59) (.tmp 60) 51 rfl w.heap.size 44 (.agg #[.bool false, .bool false, .bool false, .bool false, .int .u8 0, .int .u8 0, .int .u16 0, .string ⟨#[]⟩]) 24 Try.underlying51 infoFr rfl _ G rfl p5 g8 v8 fs rfl hs8 hGf hGf2 hsz5 ?_; intro v9 w6 q5 hg6)
            have HB6 := Lib.hid (HB5.out.grown hg6 HB5.out.size (fun q hq => (p5.block q hq).1))
            have q3 := p3.kept hg6 (Apt.ne (Apt.symm (rows_apart p3 p5)))
            have q4 := p4.kept hg6 (Apt.ne (Apt.symm (rows_apart p4 p5)))
            obtain ⟨g6, _, hs6⟩ := q4.shows
            obtain ⟨A1, hA1⟩ : ∃ A1, (if c4 = m then A4 else Option.map (fun x => x.add m) A4) = A1 := ⟨_, rfl⟩
            have HT := Lib.hid (tail_at hs6 m (by omega) A1 hA1)
            have Q3 := Lib.hid q3
            have Q5 := Lib.hid q5
            have hmc : m ≤ c4 := by omega
            have hdl : ([] : List UInt8).length + (R.drop m).length ≤ 140737488355328 := by simp; omega
            clear p3 p4 p5 hg6 q4 hs6 hs8 q3 q5
            go_upto_region 19 with (at_builtin; refine wpList_append8 _ rfl (.const (.slice none 0 0)) (.tmp 64) 22 rfl w6.heap.size 5 Try.underlying22 info5 (.slice none 0 0) [] rfl (Own.nil_ _ _ _) g6 _ (R.drop m) rfl HT.out hdl (Nat.le_refl _) ?_; intro v10 w7 r10 hg7)
            rw [List.nil_append] at r10
            have hb7 : Below w6.heap.size w6 w7 := (Below.refl _ _).grown hg7 (Nat.le_refl _) (by simp [Value.ownBlock])
            have HB7 := Lib.hid (HB6.out.trans (hb7.mono HB6.out.size))
            have R3 := Lib.hid (Q3.out.below hb7 (Nat.le_refl _))
            have R5 := Lib.hid (Q5.out.below hb7 (Nat.le_refl _))
            have R4 := Lib.hid (r10.mono HB6.out.size)
            have HAP7 : Hid (Apt v3 v10) := Lib.hid (fun g e1 e2 => by
              have := (Q3.out.block g e1).2
              have := (r10.block g e2).1
              omega)
            have hGn : 12 * (G ++ fs).length ≤ (a ++ p).length := by
              have h1 := HNX.out.1
              rw [h1]
              exact scan_len _
            have hdr : (R.drop m).length ≤ (a ++ p).length := by rw [List.length_drop]; omega
            clear hg7 hb7 r10 hA1 hdl
            go_wp2_with fail
            go_roundw
            case rel => exact ⟨k + 1, er, a ++ p, R.drop m, G ++ fs, by go_num, by omega, hlap, hdr, hGn, rfl, hec, R3.out, R4.out, R5.out, HAP7, HNX, HB7⟩
            case measure => simp [intOf]; omega
          · have HNX := Lib.hid (HPC.out.worse (by decide) p)
            have hra2 : r.length ≤ (a ++ p).length := by rw [List.length_append]; omega
            have hGa2 : 12 * G.length ≤ (a ++ p).length := by rw [List.length_append]; omega
            have O3 := Lib.hid ho3
            have O4 := Lib.hid ho4
            have O5 := Lib.hid ho5
            clear ho3 ho4 ho5 hck3 hal
            go_wp2_with fail
            go_roundw
            case rel => exact ⟨k + 1, 60, a ++ p, r, G, by go_num, by omega, hlap, hra2, hGa2, rfl, .inr rfl, O3.out, O4.out, O5.out, HAP3, HNX, HB3⟩
            case measure => simp [intOf]; omega
      · have hkn : ¬ (k : Int) < (n : Int) := by omega
        obtain ⟨g3, _, hs3⟩ := h3.shows
        obtain ⟨A3, c3, hv3, hrc3, hcm3⟩ := h3.form
        subst hv3
        have HC := Lib.hid (HSC.out A3 c3 g3 a wj hs3 (by omega))
        have hpc := HPC.out
        obtain ⟨hG, hEE, _⟩ := hpc
        rw [← hG, ← hEE] at HC
        have HG := Lib.hid h5
        clear hG hEE hs3 h3 h4 h5
        generalize (scanD a).2 = m at *
        go_wp2_with fail
        refine HC.out.mono ?_
        rintro e w5 ⟨v8, rfl, ho8, hb5⟩
        have HB5 := Lib.hid (HB.out.trans (hb5.mono HB.out.size))
        have p5 := HG.out.below hb5 (Nat.le_refl _)
        obtain ⟨g8, _, hs8⟩ := ho8.shows
        obtain ⟨A8, c8, hv8, _, _⟩ := ho8.form
        subst hv8
        obtain ⟨g5, _, hs5⟩ := p5.shows
        obtain ⟨A5, c5, hv5, _, _⟩ := p5.form
        subst hv5
        have hGl : G.length ≤ 2000 := by omega
        have HSM := Lib.hid (qfsame_true A5 A8 c5 c8 G.length G.length g5 g8 G G w5 rfl rfl hs5 hs8 (by omega) (by omega) rfl)
        clear ho8 hb5 p5 hs8 hs5
        go_wp2_with fail
        refine HSM.out.mono ?_
        rintro e w6 ⟨rfl, q, rfl⟩
        go_wp2_with fail
        refine (HH.out _).mono ?_
        rintro e w7 ⟨rfl, hb7⟩
        go_wp2_with fail
        go_ret
        exact ⟨rfl, (below_drewN HB5.out q).trans (hb7.mono HB5.out.size)⟩

set_option maxRecDepth 100000 in
set_option maxHeartbeats 1000000 in
theorem fpieces_walk_lifted (os : Os) (started : os.Started) (H : Type) (enc : TypeId × Value → H) :
    ReturnsInHanded {} Try.checked os 9 .any (Rows.framePiecesSpec.pre6 enc Try.prog Try.f9 Rows.framePiecesRow.domain false) (Rows.framePiecesSpec.post enc Try.prog Try.f9 false true false false) := by
  refine returnsInHanded_of_change_sized (C := Try.checked) own started (by kernel_rfl) Try.func9
    (ChangeSpec.witness6 (enc := enc) (C := Try.checked) false ⟨#[], #[.slice none 0 0], []⟩ 8 (by kernel_rfl) (by kernel_rfl) (by kernel_rfl) (by kernel_rfl)) ?_
  intro W base args ds gs before hval0 hW hcnd hsz0 _
  have hval : ∀ (j : Nat) t v, Try.f9.params[j]? = some t → args[j]? = some v → Value.okWide Try.prog W .any base t v := hval0
  have hsz : (DataW.weightsEach Try.prog (Try.f9.params.toList ++ Rows.framePiecesSpec.plain.varTypes Try.prog) (ds ++ gs)).all (· ≤ reachBytes) = true := hsz0
  have hW' := hW
  obtain ⟨p, q, hA0, hV, rfl, hfz, hnd⟩ := hW
  have hA : DataW.TrodAll enc Try.prog W 0 (fun _ => true) true Try.f9.params.toList args.toList ds p := hA0
  rw [Try.params9] at hA hval hsz
  obtain ⟨v0, vs0, d0, ds0, p0, q0, hargs, rfl, rfl, h0, r0⟩ := trodAll_cons hA
  obtain ⟨rfl, rfl, rfl⟩ := trodAll_nil r0
  obtain rfl : args = #[v0] := by cases args; simp_all
  obtain ⟨rfl, rfl⟩ := trodVars_none hV
  have k0 := h0
  have lt0 : ∀ x ∈ p0, x.block < W.heap.size := by obtain ⟨m, hm⟩ := k0; exact DataW.trod_lt m _ _ _ hm
  obtain ⟨A0, n0, c0, b0, V0, L0, D0, rfl, sh0, lc0, el0⟩ := open_lists Try.underlying60 Try.underlying22 Try.underlying5 (by kernel_rfl) (by kernel_rfl) (hval 0 60 v0 rfl rfl) h0
  clear hA0 hval0
  refine (fpieces_walk A0 n0 c0 b0 V0 L0 D0 W sh0 lc0 el0).mono fun e W' ⟨he, bel⟩ => ?_
  subst he
  exact ⟨_, rfl, _, _, _, [], _, [], hW', trodAll_mk1 (shut_bool Try.underlying4 _), (trodAll_cons_mk (Below.trod laidOut (by kernel_rfl) (of_decide_eq_true (by kernel_rfl)) k0 bel lt0) trodAll_mk0), rfl, bel.frame _, fun h => by cases h⟩

theorem framePieces_holds : Rows.FramePiecesSaid :=
  OpenClaim.holds_of_wide 9 Try.f9 rfl rfl rfl rfl rfl rfl rfl ⟨rfl, rfl, rfl, rfl, rfl⟩ rfl rfl rfl rfl rfl (by kernel_rfl) Try.func9 (by kernel_rfl)
    (of_decide_eq_true (by kernel_rfl)) (by unfold Func.isWrapper; first | (rw [if_pos (by decide +kernel)]; kernel_rfl) | (rw [if_neg (by decide +kernel)]; exact ⟨rfl, rfl⟩))
    (fun os started H enc _ => fpieces_walk_lifted os started H enc)
#print axioms framePieces_holds
end Go.Proofs.Ytlcggpobelbfcaa
