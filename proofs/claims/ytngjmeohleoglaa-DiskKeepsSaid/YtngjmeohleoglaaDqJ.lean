/-
  The document's calls of disks, further: Wake.
  Conditions: none but sizes.
-/
import Derived.Test.YtngjmeohleoglaaDqI
import Derived.StillTailTactics
namespace Go.Proofs.Ytngjmeohleoglaa
open Go.RowKit Go.Shelf
set_option linter.unusedVariables false
set_option linter.unusedSimpArgs false
set_option maxRecDepth 100000

section
variable {w0 w w' : World} {base qb n : Nat} {F : Nat → Prop} {v v' : Value} {st st' : DD}
theorem BoxQF.set2 {nb : Nat} {a : DName} {f : FD} (h : BoxQF w nb a f) (m : Nat) : BoxQF (w.setCell ⟨nb, 2, none⟩ (.int .i64 m)) nb a ⟨f.b, m⟩ := heap_setCell_same w nb 2 _ 64 (.int .i64 m) h
theorem BoxQF.set1 {nb : Nat} {a : DName} {f : FD} (h : BoxQF w nb a f) (x : List UInt8) : BoxQF (w.setCell ⟨nb, 1, none⟩ (.string (str8 x))) nb a ⟨x, f.safe⟩ := heap_setCell_same w nb 1 _ 64 (.string (str8 x)) h
theorem AtQ.cell3 {b m c : Nat} (h : AtQ w0 base qb F (.slice (some ⟨b, 0, none⟩) m c) st w) {i : Nat} {q : DName} {f : FD} (hi : st.fs[i]? = some (q, f)) (f' : FD) :
    AtQ w0 base qb F (.slice (some ⟨b, 0, none⟩) m c) { st with fs := st.fs.set i (q, f') } (((w.setCell ⟨b, i * 3, none⟩ (.string (str8 q))).setCell ⟨b, i * 3 + 1, none⟩ (.string (str8 f'.b))).setCell ⟨b, i * 3 + 2, none⟩ (.int .i64 f'.safe)) := by
  have hil := (List.getElem?_eq_some_iff.1 hi).1
  have h1 := h.cell hi 0 (.string (str8 q)) f (by omega) rfl
  have i1 : (st.fs.set i (q, f))[i]? = some (q, f) := by rw [List.getElem?_set]; simp [hil]
  have h2 := h1.cell (i := i) (q := q) (f := f) i1 1 (.string (str8 f'.b)) ⟨f'.b, f.safe⟩ (by omega) rfl
  have i2 : ((st.fs.set i (q, f)).set i (q, (⟨f'.b, f.safe⟩ : FD)))[i]? = some (q, ⟨f'.b, f.safe⟩) := by rw [List.getElem?_set]; simp [hil]
  have h3 := h2.cell (i := i) (q := q) (f := ⟨f'.b, f.safe⟩) i2 2 (.int .i64 f'.safe) f' (by omega) rfl
  simp only [List.set_set] at h3
  exact h3

theorem wake_sum {sf fl Z m : Nat} (h : m = sf + Z) (hle : m ≤ fl) (h2 : fl ≤ 1048576) : IntKind.i64.wrap ((sf : Int) + (Z : Int)) = (m : Int) ∧ wrap64 ((sf : Int) + (Z : Int)) = (m : Int) ∧ (m : Int) ≤ (fl : Int) :=
  ⟨by rw [i64_id _ (by omega) (by omega)]; omega, by rw [w64_id _ (by omega) (by omega)]; omega, by omega⟩
def WokeQ (w0 : World) (base qb : Nat) (F : Nat → Prop) (v : Value) (st : DD) (keep : List Int) (vk : Value) (dk j : Nat) (w : World) : Prop :=
  AtQ w0 base qb F v { st with down := false, fs := wakeTo keep j st.fs } w ∧ ShowsG intC w dk vk keep
/-- One round. -/
theorem WokeQ.next {keep : List Int} {vk : Value} {dk j b m c k : Nat} (h : WokeQ w0 base qb F (.slice (some ⟨b, 0, none⟩) m c) st keep vk dk j w) (hr : Rising st.fs) (hdk : dk ≠ b) {q : DName} {f : FD} (hqf : st.fs[j]? = some (q, f)) (hk : k = f.safe + keepN keep j f) :
    WokeQ w0 base qb F (.slice (some ⟨b, 0, none⟩) m c) st keep vk dk (j + 1) (((w.drew.setCell ⟨b, j * 3, none⟩ (.string (str8 q))).setCell ⟨b, j * 3 + 1, none⟩ (.string (str8 (f.b.take k)))).setCell ⟨b, j * 3 + 2, none⟩ (.int .i64 k)) := by
  subst hk
  refine ⟨?_, ?_⟩
  · have h1 := h.1.drew.cell3 (i := j) (q := q) (f := f) (wakeTo_at hqf) (wakeF keep j f)
    simp only [] at h1
    rw [set_at (wakeTo_rising hr) (wakeTo_at hqf), ← wakeTo_succ hr hqf] at h1
    exact h1
  · refine h.2.keep (by simp) fun _ => ?_
    rw [heap_setCell_other _ _ _ _ hdk, heap_setCell_other _ _ _ _ hdk, heap_setCell_other _ _ _ _ hdk]
    rfl

set_option maxHeartbeats 1000000 in
theorem qwake_any (h : AtQ w0 base qb F v st w) (hw : DWf n st) (hn : n ≤ 1000000) (keep : List Int) (vk : Value) (dk : Nat) (hk : ShowsG intC w dk vk keep) (hdk : dk ≠ qb) (hdv : v.ownBlock ≠ some dk) (hkl : keep.length ≤ 140737488355328) :
    Calls Try.prog 36 #[.pointer (some ⟨qb, 0, none⟩), vk] w (QGone w0 base qb F (wakeD st keep)) := by
  have c3 := h.disk.box.c3
  have f3 := h.disk.box.fr 3
  obtain ⟨Ak, ck, rfl, hkc, hkm⟩ := hk.form
  cases hd : st.down with
  | false =>
    rw [hd] at c3
    have HE := Lib.hid (show QGone w0 base qb F (wakeD st keep) (.returned (.tuple #[])) w from by rw [wakeD, if_neg (by simp [hd])]; exact ⟨rfl, v, h⟩)
    clear h hw hk hd hdk hdv hkc hkm
    go_enter Try.func36, Try.ntmps36
    go_wp2_with fail
    first | go_end0 | refine bodyPost_ret (results_none rfl _ _ _) rfl ?_
    exact HE.out
  | true =>
    rw [hd] at c3
    have h1 : WokeQ w0 base qb F v st keep (.slice Ak keep.length ck) dk 0 (w.setCell ⟨qb, 3, none⟩ (.bool false)) := by
      refine ⟨?_, hk.keep (by simp) fun _ => heap_setCell_other _ _ _ _ hdk⟩
      rw [wakeTo_zero]
      exact h.same (h.disk.set3 false) ((Mv.refl (fun k => k = qb) w).setCell (fun _ => rfl) 3 _)
    have H1 := Lib.hid h1
    have HALL := Lib.hid (And.intro hw (And.intro hn (And.intro hdk (And.intro hdv (And.intro hkc (And.intro hkm hd))))))
    clear h hw hk h1 hdk hdv hkc hkm hn hd
    go_enter Try.func36, Try.ntmps36
    go_wp2_with fail
    go_loopw [4] (fun i wr => ∃ j : Nat, j ≤ st.fs.length ∧ i = .int .i64 j ∧ WokeQ w0 base qb F v st keep (.slice Ak keep.length ck) dk j wr) (fun i _ => st.fs.length - (intOf i).toNat)
    case atStart => exact ⟨0, by omega, rfl, H1.out⟩
    case round =>
      rename World => wr
      obtain ⟨j, hj, rfl, R⟩ := hrel
      obtain ⟨hwf, hn, hdk, hdv, hkc, hkm, hd⟩ := HALL.out
      have ha := R.1
      by_cases hjl : j < st.fs.length
      · obtain ⟨⟨q, f⟩, hqf⟩ : ∃ y, st.fs[j]? = some y := ⟨_, List.getElem?_eq_getElem hjl⟩
        obtain ⟨_, hfl, hfs⟩ := hwf.each _ (List.mem_of_getElem? hqf)
        simp only at hfl hfs
        obtain ⟨b, c, hv, k0, k1, k2, hfr, _⟩ := ha.at_ (i := j) (q := q) (f := f) (wakeTo_at hqf)
        simp only [wakeTo_length] at hv
        have d0 := ha.disk.box.c0
        have hbl : b < wr.heap.size := (ha.disk.row.block b (by rw [hv]; rfl)).2
        have hqb : qb < wr.heap.size := ha.disk.box.lt
        have h0 : w0.heap.size ≤ wr.heap.size := ha.mv.size
        have hnb : v.ownBlock ≠ some wr.heap.size := by
          rw [hv]
          intro e
          have e2 : some b = some wr.heap.size := e
          injection e2 with e2
          omega
        have hdb : dk ≠ b := by rintro rfl; exact hdv (by rw [hv]; rfl)
        have b1 : (j : Int) < (st.fs.length : Int) := by omega
        have hn' := hwf.count
        have bw : IntKind.i64.wrap ((j : Int) + 1) = (j : Int) + 1 := i64_id _ (by omega) (by omega)
        obtain ⟨m, hm⟩ : ∃ m, m = f.safe + keepN keep j f := ⟨_, rfl⟩
        have hmle : m ≤ f.b.length := by rw [hm]; unfold keepN; split <;> omega
        obtain ⟨W, hW⟩ : ∃ W, W = wr.alloc (.cells #[.string (str8 q), .string (str8 f.b), .int .i64 f.safe] 64) := ⟨_, rfl⟩
        have hbW : Below wr.heap.size wr W := by rw [hW]; exact below_boxK _ _
        have hsW : W.heap.size = wr.heap.size + 1 := by rw [hW]; simp
        have hFB : BoxQF W wr.heap.size q f := by rw [hW]; exact heap_alloc_new wr _
        have hRW : WokeQ w0 base qb F v st keep (.slice Ak keep.length ck) dk j W := ⟨ha.below hbW, R.2.keep hbW.size fun hp => hbW.block dk (R.2.lt hp)⟩
        have hdn : 0 < keep.length → dk < wr.heap.size := fun hp => R.2.lt hp
        -- behind the number
        have HRS := Lib.hid (fun (W' : World) (hW' : W' = W ∨ ∃ k, W' = W.drewN k) => show WokeQ w0 base qb F v st keep (.slice Ak keep.length ck) dk j ((W'.setCell ⟨wr.heap.size, 2, none⟩ (.int .i64 m)).setCell ⟨wr.heap.size, 1, none⟩ (.string (str8 (f.b.take m)))) ∧ BoxQF W' wr.heap.size q f from by
          have hR' : WokeQ w0 base qb F v st keep (.slice Ak keep.length ck) dk j W' ∧ BoxQF W' wr.heap.size q f := by
            rcases hW' with rfl | ⟨k, rfl⟩
            · exact ⟨hRW, hFB⟩
            · exact ⟨⟨hRW.1.drewN k, hRW.2.keep (Nat.le_refl _) fun _ => rfl⟩, hFB⟩
          refine ⟨⟨(hR'.1.1.other hqb hnb h0 2 _).other hqb hnb h0 1 _, hR'.1.2.keep (by simp) fun hp => ?_⟩, hR'.2⟩
          have := hdn hp
          rw [heap_setCell_other _ _ _ _ (by show dk ≠ wr.heap.size; omega), heap_setCell_other _ _ _ _ (by show dk ≠ wr.heap.size; omega)])
        subst hv
        have HNX := Lib.hid (fun (W2 : World) (h2 : WokeQ w0 base qb F (.slice (some ⟨b, 0, none⟩) st.fs.length c) st keep (.slice Ak keep.length ck) dk j W2) => h2.next hwf.rising hdb hqf hm)
        have hAsk := hRW.2
        have p1 := hFB.c1
        have p2 := hFB.c2
        have HWW := Lib.hid hW
        have HJ := Lib.hid (And.intro hj (And.intro hjl bw))
        have HMM := Lib.hid (And.intro hm (And.intro hmle (And.intro hfs hfl)))
        have hz := str8_size f.b
        obtain ⟨Z, hZ⟩ : ∃ Z, Z = keepN keep j f := ⟨_, rfl⟩
        have HZ0 := Lib.hid hZ
        have HSUM := Lib.hid (wake_sum (hZ ▸ hm) hmle hfl)
        have HQF := Lib.hid hqf
        clear hW hbW hsW hFB hRW hdn R ha hwf hn hdk hdv hkc hkm hd hbl hqb h0 hnb hdb hn' hm hmle hfs hfl hj hjl hqf H1 hZ
        go_upto_region 6 with fail
        rw [← HWW.out]
        go_upto_if 34 with fail
        go_cut [6] from 31 to 46 (fun z wx => z = .int .i64 Z ∧ (wx = W ∨ ∃ k, wx = W.drewN k))
        case first =>
          by_cases hjk : j < keep.length
          · obtain ⟨dkb, hAk, _, hkcell⟩ := hAsk.at_ (by omega)
            subst hAk
            obtain ⟨kv, hkv⟩ : ∃ y, keep[j]? = some y := ⟨_, List.getElem?_eq_getElem hjk⟩
            have hkc0 : W.cell? ⟨dk, dkb + j, none⟩ = some (.int .i64 kv) := by
              have := hkcell j hjk 0 (by simp [intC])
              have e : keep[j] = kv := by
                have := List.getElem?_eq_getElem hjk
                rw [this] at hkv
                injection hkv
              rw [e] at this
              simpa [intC] using this
            have b2 : decide (j < keep.length) = true := by simpa using hjk
            have b2' : decide ((j : Int) < (keep.length : Int)) = true := by simpa using hjk
            have b3 : (j : Int) < (keep.length : Int) := by omega
            have hm00 : m = f.safe + min kv.toNat (f.b.length - f.safe) := by rw [HMM.out.1]; unfold keepN; rw [hkv]
            obtain ⟨L, Z', e1, e1', bs, bz, hm1, hZ'⟩ := wake_nums HMM.out.2.2.1 HMM.out.2.2.2 hm00
            have hzz : Z' = Z := by have := HMM.out.1; have := HZ0.out; omega
            subst hzz
            have HZ := Lib.hid hZ'
            clear hm00 hm1 bz bs hZ' hkv hkcell hjk hAsk
            go_wp2_with fail
            go_quiet (fail)
            go_wp2_with fail
            go_meet
            exact ⟨by rw [wake_min HZ.out], .inr ⟨_, rfl⟩⟩
          · have b2 : decide (j < keep.length) = false := by simpa using hjk
            have b2' : decide ((j : Int) < (keep.length : Int)) = false := by simpa using hjk
            have b3n : ¬ (j : Int) < (keep.length : Int) := by omega
            have b4n : ¬ j < keep.length := hjk
            have hz0 : Z = 0 := by rw [HZ0.out]; unfold keepN; rw [List.getElem?_eq_none (by omega)]
            have HZ := Lib.hid hz0
            clear hz0 hjk hAsk
            go_wp2_with fail
            go_meet
            exact ⟨by rw [HZ.out]; rfl, .inl rfl⟩
        case rest =>
          rename World => wx
          obtain ⟨rfl, hwx⟩ := hcut
          obtain ⟨hR2, hFx⟩ := HRS.out wx hwx
          obtain ⟨bz, bz', bm⟩ := HSUM.out
          have hex : (str8 f.b).extract 0 m = str8 (f.b.take m) := by rw [str8_take]
          have q2 := hFx.c2
          have qf := hFx.fr
          have hF3 := hFx.set2 m
          obtain ⟨W3, hW3⟩ : ∃ W3, W3 = wx.setCell ⟨wr.heap.size, 2, none⟩ (.int .i64 m) := ⟨_, rfl⟩
          rw [← hW3] at hF3 hR2
          have r1 := hF3.c1
          have r2 := hF3.c2
          have rf := hF3.fr
          have hF4 := hF3.set1 (f.b.take m)
          obtain ⟨W4, hW4⟩ : ∃ W4, W4 = W3.setCell ⟨wr.heap.size, 1, none⟩ (.string (str8 (f.b.take m))) := ⟨_, rfl⟩
          rw [← hW4] at hF4 hR2
          have s0 := hF4.c0
          have s1 := hF4.c1
          have s2 := hF4.c2
          have t0 := hR2.1.disk.box.c0
          obtain ⟨b', c', hv', g0, g1, g2, hfr', _⟩ := hR2.1.at_ (i := j) (wakeTo_at HQF.out)
          simp only [Value.slice.injEq, Option.some.injEq, Addr.mk.injEq, and_true, true_and] at hv'
          obtain ⟨rfl, _⟩ := hv'
          have tf : ∀ j, W4.drew.frozen? ⟨b, j, none⟩ = false := hfr'
          have tg0 : W4.drew.cell? ⟨b, j * 3, none⟩ = some (.string (str8 q)) := g0
          have tg1 : W4.drew.cell? ⟨b, j * 3 + 1, none⟩ = some (.string (str8 f.b)) := g1
          have tg2 : W4.drew.cell? ⟨b, j * 3 + 2, none⟩ = some (.int .i64 f.safe) := g2
          have HN := Lib.hid (HNX.out W4 hR2)
          have HW3 := Lib.hid hW3
          have HW4 := Lib.hid hW4
          clear hwx hR2 hFx hF3 hW3 hF4 hW4 hAsk p1 p2 k0 k1 k2 hfr d0 g0 g1 g2 hfr'
          go_upto_region 10 with fail
          rw [← HW3.out]
          go_upto_region 11 with fail
          rw [← HW4.out]
          go_still_tail 7, (by kernel_rfl)
          change wpList _ _ _ _ _ W4.drew
          generalize W4.drew = W5 at *
          go_wp2_with fail
          have hj := HJ.out.1
          have hjl := HJ.out.2.1
          have bw := HJ.out.2.2
          go_roundw
          case rel => exact ⟨j + 1, by omega, by go_num, HN.out⟩
          case measure => simp [intOf]; omega
      · have hje : j = st.fs.length := by omega
        have HE := Lib.hid (show QGone w0 base qb F (wakeD st keep) (.returned (.tuple #[])) wr from by
          refine ⟨rfl, v, ?_⟩
          have h1 := R.1
          rw [hje, wakeTo_all] at h1
          rw [wakeD, if_pos hd]
          exact h1)
        obtain ⟨A, c, hv, _, _⟩ := ha.disk.row.form
        simp only [wakeTo_length] at hv
        have d0 := ha.disk.box.c0
        rw [hv] at d0
        have b1 : ¬ (j : Int) < (st.fs.length : Int) := by omega
        clear R ha hwf hn hdk hdv hkc hkm hd hv hje H1
        go_wp2_with fail
        first | go_end0 | refine bodyPost_ret (results_none rfl _ _ _) rfl ?_
        exact HE.out
end

end Go.Proofs.Ytngjmeohleoglaa
