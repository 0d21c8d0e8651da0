/-
  The contract of Feed of gather's Gather.
  Conditions: none but sizes.
-/
import Derived.Test.YtocankfabgjjmaaGaG
import Derived.Deep.RegionWith
import Derived.Deep.CutRange
import Derived.Deep.CutBlock
import Derived.Deep.DeepCutAuto
namespace Go.Proofs.Ytocankfabgjjmaa
open Go.RowKit
set_option linter.unusedVariables false
set_option linter.unusedSimpArgs false

set_option maxRecDepth 100000 in
set_option maxHeartbeats 4000000 in
theorem feed_live (f : Fr) (w : World) (B gb mb : Nat) (cs : List (Plc × Cel)) (hf : f.ok) (hB : B ≤ w.heap.size) (h : GL w B gb mb cs) :
    Calls Try.prog 7 #[.pointer (some ⟨gb, 0, none⟩), .agg f.vs.toArray] w (FeedSaid w B gb (GF gb mb cs) (feedM (cs.map fun x => (x.1, x.2.p)) f)) := by
  obtain ⟨RES, hRES⟩ : ∃ R, R = feedM (cs.map fun x => (x.1, x.2.p)) f := ⟨_, rfl⟩
  rw [← hRES]
  unfold feedM at hRES
  have HRES := Lib.hid hRES
  clear hRES
  obtain ⟨hw3, hs3⟩ := W3.of w f
  have hq : smallP f.plc := ⟨hf.2.2.1, by have := hf.2.1; show f.k < 65536; omega⟩
  have hL := h.keep (w' := w3 w f) (fun k hk => hw3.bel.block k (h.foot k hk).2)
  have hlook := hL.look hq
  have hlookd : (Instr.lookup 52 (.map (some mb)) (keyV f.plc) true).run Try.prog (w3 w f).drew = _ := (hL.keep (w' := (w3 w f).drew) fun _ _ => rfl).look hq
  have hu : IntKind.u16.wrap (f.k : Int) = (f.k : Int) := by rw [IntKind.wrap_u16]; have := hf.2.1; omega
  have c0 := h.c0
  have hgl := h.lt
  have c00 := fun o o' => (((f_below_box w o).alloc (by simp) o').cell (p := ⟨gb, 0, none⟩) hgl).trans c0
  have c0' := c00 (Obj.cells #[.bool f.a, .bool f.b, .bool f.c, .bool f.d, .int .u8 f.t, .int .u8 f.k, .int .u16 f.ch, .string f.p] 30) (Obj.cells #[.int .u16 0, .int .u8 0, .slice none 0 0] 34)
  have g1 := hL.c1
  have g1d : (w3 w f).drew.cell? ⟨gb, 1, none⟩ = _ := g1
  have k0 : (w3 w f).cell? ⟨w.heap.size + 1 + 1, 0, none⟩ = some (.int .u16 f.ch) := by rw [cell_of_row _ _ _ _ 55 (0, 0) hw3.key]; rfl
  have k1 : (w3 w f).cell? ⟨w.heap.size + 1 + 1, 1, none⟩ = some (.int .u16 f.k) := by rw [cell_of_row _ _ _ _ 55 (0, 0) hw3.key]; rfl
  have hbz := f_below_box (w3 w f) (Obj.cells #[.slice none 0 0, .slice none 0 0, .bool false, .bool false, .bool false, .bool false, .int .u8 0, .int .u8 0, .int .u16 0, .string ⟨#[]⟩, .bool false] 59)
  have g1z := (hbz.cell (p := ⟨gb, 1, none⟩) hL.lt).trans g1
  have k0z := (hbz.cell (p := ⟨w.heap.size + 1 + 1, 0, none⟩) (show w.heap.size + 1 + 1 < (w3 w f).heap.size by omega)).trans k0
  have k1z := (hbz.cell (p := ⟨w.heap.size + 1 + 1, 1, none⟩) (show w.heap.size + 1 + 1 < (w3 w f).heap.size by omega)).trans k1
  have hlookz : (Instr.lookup 52 (.map (some mb)) (keyV f.plc) true).run Try.prog ((w3 w f).alloc (Obj.cells #[.slice none 0 0, .slice none 0 0, .bool false, .bool false, .bool false, .bool false, .int .u8 0, .int .u8 0, .int .u16 0, .string ⟨#[]⟩, .bool false] 59)).drew = _ := (hL.keep (w' := ((w3 w f).alloc (Obj.cells #[.slice none 0 0, .slice none 0 0, .bool false, .bool false, .bool false, .bool false, .int .u8 0, .int .u8 0, .int .u16 0, .string ⟨#[]⟩, .bool false] 59)).drew) fun k hk => hbz.block k (hL.foot k hk).2).look hq
  have HC := Lib.hid (celAt_w hL f.plc)
  obtain ⟨A1, x1, hv1, _, _⟩ := HC.out.o1.form
  obtain ⟨A2, x2, hv2, _, _⟩ := HC.out.o2.form
  have HW3 := Lib.hid (And.intro hw3 (And.intro hs3 hL))
  clear hw3 hL c0 c00 hbz
  have hf' := Lib.hid hf
  have hcv : (celAt cs f.plc).val = .agg (ptVs (celAt cs f.plc).v1 (celAt cs f.plc).v2 (celAt cs f.plc).p.head (celAt cs f.plc).p.whole).toArray := rfl
  rw [hcv] at hlook hlookd hlookz
  obtain ⟨fa, fb, fc, fd, ft, fk, fch, fp⟩ := f
  simp only [Fr.vs, Fr.plc, keyV, ptVs] at *
  generalize hCC : celAt cs (fch, fk) = C at *
  obtain ⟨⟨segs, bytes, ⟨ha, hb, hc, hd, ht, hk, hch, hp⟩, whole⟩, v1, v2⟩ := C
  simp only [] at *
  subst hv1
  subst hv2
  have hw3def : ((w.alloc (Obj.cells #[.bool fa, .bool fb, .bool fc, .bool fd, .int .u8 ft, .int .u8 fk, .int .u16 fch, .string fp] 30)).alloc (Obj.cells #[.int .u16 0, .int .u8 0, .slice none 0 0] 34)).alloc (Obj.cells #[.int .u16 fch, .int .u16 fk] 55) = w3 w ⟨fa, fb, fc, fd, ft, fk, fch, fp⟩ := rfl
  generalize w3 w ⟨fa, fb, fc, fd, ft, fk, fch, fp⟩ = W3 at *
  have HDEF := Lib.hid hw3def
  clear hw3def
  go_enter Try.func7, Try.ntmps7
  go_upto_region 6 with fail
  rw [HDEF.out]
  clear HDEF
  go_cut [8, 9] from 33 to 41 (fun a b wx => a = .pointer (some ⟨w.heap.size + 1 + 1 + 1, 0, none⟩) ∧ b = .bool (getM cs (fch, fk)).isSome ∧ wx = (W3.alloc (Obj.cells #[.slice A1 segs.length x1, .slice A2 bytes.length x2, .bool ha, .bool hb, .bool hc, .bool hd, .int .u8 ht, .int .u8 hk, .int .u16 hch, .string hp, .bool whole] 59)).drew)
  case first =>
    go_region
    all_goals
      go_wp2_with fail
      go_meet
      exact ⟨rfl, rfl, rfl⟩
  case rest =>
    obtain ⟨rfl, rfl, rfl⟩ := hcut
    clear k0 k1 g1 g1d g1z k0z k1z hlook hlookd hlookz
    have hL := HW3.out.2.2
    have hbP := below_drew1 (f_below_box W3 (Obj.cells #[.slice A1 segs.length x1, .slice A2 bytes.length x2, .bool ha, .bool hb, .bool hc, .bool hd, .int .u8 ht, .int .u8 hk, .int .u16 hch, .string hp, .bool whole] 59))
    have hX4 : BoxP (W3.alloc (Obj.cells #[.slice A1 segs.length x1, .slice A2 bytes.length x2, .bool ha, .bool hb, .bool hc, .bool hd, .int .u8 ht, .int .u8 hk, .int .u16 hch, .string hp, .bool whole] 59)).drew (w.heap.size + 1 + 1 + 1) (.slice A1 segs.length x1) (.slice A2 bytes.length x2) ⟨ha, hb, hc, hd, ht, hk, hch, hp⟩ whole := by
      have := BoxP.new W3 (.slice A1 segs.length x1) (.slice A2 bytes.length x2) ⟨ha, hb, hc, hd, ht, hk, hch, hp⟩ whole
      rw [hs3] at this
      exact this
    have hF4 := HW3.out.1.fr.kept hbP (Nat.le_refl _)
    have hA4 := HW3.out.1.asm.kept hbP (Nat.le_refl _)
    have hK4 := (hbP.block _ (show w.heap.size + 1 + 1 < W3.heap.size by omega)).trans HW3.out.1.key
    have hL4 := hL.keep fun k hk => hbP.block k (hL.foot k hk).2
    have hC4 := HC.out.keep fun k hk => hbP.block k (HC.out.has hk).2
    have hB4 := HW3.out.1.bel.trans (hbP.mono HW3.out.1.bel.size)
    have hs4 : (W3.alloc (Obj.cells #[.slice A1 segs.length x1, .slice A2 bytes.length x2, .bool ha, .bool hb, .bool hc, .bool hd, .int .u8 ht, .int .u8 hk, .int .u16 hch, .string hp, .bool whole] 59)).drew.heap.size = w.heap.size + 1 + 1 + 1 + 1 := by
      show (W3.alloc (Obj.cells #[.slice A1 segs.length x1, .slice A2 bytes.length x2, .bool ha, .bool hb, .bool hc, .bool hd, .int .u8 ht, .int .u8 hk, .int .u16 hch, .string hp, .bool whole] 59)).heap.size = _
      rw [World.size_alloc, hs3]
    generalize (W3.alloc (Obj.cells #[.slice A1 segs.length x1, .slice A2 bytes.length x2, .bool ha, .bool hb, .bool hc, .bool hd, .int .u8 ht, .int .u8 hk, .int .u16 hch, .string hp, .bool whole] 59)).drew = W4 at *
    have H4 := Lib.hid (And.intro hX4 (And.intro hF4 (And.intro hA4 (And.intro hK4 (And.intro hL4 (And.intro hC4 (And.intro hB4 hs4)))))))
    have hopt := celAt_opt cs (fch, fk)
    rw [hCC] at hopt
    simp only at hopt
    have hokp := celAt_ok h (fch, fk)
    have hgf := h.foot
    have hpb : ¬ GF gb mb cs (w.heap.size + 1 + 1 + 1) := fun hk => by have := (hgf _ hk).2; omega
    have hpt : (getM (cs.map fun x => (x.1, x.2.p)) (fch, fk)).getD pt0 = ⟨segs, bytes, ⟨ha, hb, hc, hd, ht, hk, hch, hp⟩, whole⟩ := by rw [← celAt_p, hCC]
    have hbl : bytes.length ≤ 16384 ∧ segs.length ≤ 1000 := by
      cases ho : getM (cs.map fun x => (x.1, x.2.p)) (fch, fk) with
      | none => rw [ho] at hpt; injection hpt with e1 e2 _ _; rw [← e1, ← e2]; exact ⟨by simp [pt0], by simp [pt0]⟩
      | some p =>
        rw [ho] at hpt
        obtain rfl : p = _ := hpt
        have := hokp _ ho
        have h1 := this.segs
        have h2 := this.head
        have h3 := this.bytes
        simp only at h1 h2 h3
        exact ⟨h3, by omega⟩
    have HR := fun w' => refused_any ⟨fa, fb, fc, fd, ft, fk, fch, fp⟩ (.slice A1 segs.length x1) A2 bytes.length x2 ⟨segs, bytes, ⟨ha, hb, hc, hd, ht, hk, hch, hp⟩, whole⟩ (getM cs (fch, fk)).isSome w' rfl hf (by rw [hopt, hpt]) hbl.1
    have hadded := fun hr => PtOk.added (f := ⟨fa, fb, fc, fd, ft, fk, fch, fp⟩) hokp hr
    rw [hopt] at HR
    have HR := Lib.hid HR
    have HGF := Lib.hid (And.intro hgf hpb)
    have HADD := Lib.hid hadded
    have HQ := Lib.hid (And.intro hq hCC)
    have f0 := hF4.c0
    have f1 := hF4.c1
    have f2 := hF4.c2
    have f3 := hF4.c3
    have f4 := hF4.c4
    have f5 := hF4.c5
    have f6 := hF4.c6
    have f7 := hF4.c7
    have q0 := hX4.c0
    have q1 := hX4.c1
    have q2 := hX4.c2
    have q3 := hX4.c3
    have q4 := hX4.c4
    have q5 := hX4.c5
    have q6 := hX4.c6
    have q7 := hX4.c7
    have q8 := hX4.c8
    have q9 := hX4.c9
    have q10 := hX4.c10
    have hres := HRES.out
    have HR1 := Lib.hid (fun (hr : refusedD ⟨fa, fb, fc, fd, ft, fk, fch, fp⟩ (getM (cs.map fun x => (x.1, x.2.p)) (fch, fk)) ≠ 0) => show RES = (ans0 (refusedD ⟨fa, fb, fc, fd, ft, fk, fch, fp⟩ (getM (cs.map fun x => (x.1, x.2.p)) (fch, fk))), none) by rw [hres]; exact if_pos hr)
    have HR2 := Lib.hid (fun (hr : refusedD ⟨fa, fb, fc, fd, ft, fk, fch, fp⟩ (getM (cs.map fun x => (x.1, x.2.p)) (fch, fk)) = 0) (h1 : fb = true) (h2 : fd = true) => show RES = (⟨fch, fk, wholeD ((⟨segs, bytes, ⟨ha, hb, hc, hd, ht, hk, hch, hp⟩, whole⟩ : Pt).add ⟨fa, fb, fc, fd, ft, fk, fch, fp⟩).bytes ((⟨segs, bytes, ⟨ha, hb, hc, hd, ht, hk, hch, hp⟩, whole⟩ : Pt).add ⟨fa, fb, fc, fd, ft, fk, fch, fp⟩).segs, true, 0⟩, some (delM (cs.map fun x => (x.1, x.2.p)) (fch, fk))) by
      rw [hres, ← hpt]
      exact (if_neg (by omega)).trans (if_pos ⟨h1, h2⟩))
    have HR3 := Lib.hid (fun (hr : refusedD ⟨fa, fb, fc, fd, ft, fk, fch, fp⟩ (getM (cs.map fun x => (x.1, x.2.p)) (fch, fk)) = 0) (h1 : ¬ (fb = true ∧ fd = true)) => show RES = (ans0 0, some (putM (cs.map fun x => (x.1, x.2.p)) (fch, fk) ((⟨segs, bytes, ⟨ha, hb, hc, hd, ht, hk, hch, hp⟩, whole⟩ : Pt).add ⟨fa, fb, fc, fd, ft, fk, fch, fp⟩))) by
      rw [hres, ← hpt]
      exact (if_neg (by omega)).trans (if_neg h1))
    clear hres HRES
    rw [hpt] at hadded HADD
    generalize hoo : getM (cs.map fun x => (x.1, x.2.p)) (fch, fk) = o at *
    clear hX4 hF4 hA4 hK4 hL4 hC4 hB4 hopt hokp hgf hpb hadded hq hpt hCC HW3 HC hbP hcv hoo
    by_cases hr : refusedD ⟨fa, fb, fc, fd, ft, fk, fch, fp⟩ o = 0
    · have hok' := HADD.out hr
      have hck := (refused_zero hr).1
      have hp4 := (checkF_zero hck).2.2
      have H2 := Lib.hid (HR2.out hr)
      have H3 := Lib.hid (HR3.out hr)
      have HAD := Lib.hid (fun w' hB' hX' ho1 ho2 => add_any ⟨fa, fb, fc, fd, ft, fk, fch, fp⟩ B (w.heap.size + 1 + 1 + 1) (.slice A1 segs.length x1) (.slice A2 bytes.length x2) (⟨segs, bytes, ⟨ha, hb, hc, hd, ht, hk, hch, hp⟩, whole⟩ : Pt) w' hf hp4 hB' hX' ho1 ho2 hbl.2 hbl.1)
      rw [hr] at HR
      have HOK := Lib.hid hok'
      clear hr hok' hck hp4 HADD HR1 HR2 HR3
      simp only [Fr.vs, ptVs] at HR HAD
      unfold AddSaid at HAD
      generalize (⟨segs, bytes, ⟨ha, hb, hc, hd, ht, hk, hch, hp⟩, whole⟩ : Pt).add ⟨fa, fb, fc, fd, ft, fk, fch, fp⟩ = p' at *
      obtain ⟨segs', bytes', ⟨ga, gb', gc, gd, gt, gk, gch, gp⟩, whole'⟩ := p'
      simp only [] at HAD H2
      have hB5 : ∀ w5, Below W4.heap.size W4 w5 → B ≤ w5.heap.size := fun w5 hb5 => by have := hb5.size; omega
      have HB5 := Lib.hid hB5
      clear hB5
      by_cases hlast : fb = true ∧ fd = true
      · obtain ⟨rfl, rfl⟩ := hlast
        have HRES := Lib.hid (H2.out rfl rfl)
        clear H2 H3
        go_upto_region 15 with (first
          | (go_at_call 14
             refine (HR.out _).mono ?_
             rintro e w5 ⟨rfl, hb5⟩
             have hL5 := H4.out.2.2.2.2.1.keep fun k hk => hb5.block k (H4.out.2.2.2.2.1.foot k hk).2
             have hX5 := H4.out.1.kept hb5 (Nat.le_refl _)
             have hF5 := H4.out.2.1.kept hb5 (Nat.le_refl _)
             have hC5 := H4.out.2.2.2.2.2.1.keep fun k hk => hb5.block k (H4.out.2.2.2.2.2.1.has hk).2
             have r0 := hF5.c0
             have r1 := hF5.c1
             have r2 := hF5.c2
             have r3 := hF5.c3
             have r4 := hF5.c4
             have r5 := hF5.c5
             have r6 := hF5.c6
             have r7 := hF5.c7)
          | (go_at_call 15
             refine (HAD.out w5 (HB5.out _ hb5) hX5 hC5.o1 hC5.o2).mono ?_
             rintro e w6 ⟨rfl, v1', v2', hX6, hn1, hn2, hw1, hw2, mv⟩
             have hX6 : BoxP w6 (w.heap.size + 1 + 1 + 1) v1' v2' ⟨ga, gb', gc, gd, gt, gk, gch, gp⟩ whole' := hX6
             have hn1 : OwnG sgmC 74 w6 B v1' segs' := hn1
             have hn2 : Own 5 w6 B v2' bytes' := hn2
             obtain ⟨B1, z1, rfl, _, _⟩ := hn1.form
             obtain ⟨B2, z2, rfl, _, _⟩ := hn2.form
             have hsz5 := hb5.size
             have hadd := hL5.add (q := (fch, fk)) (HB5.out _ hb5) HGF.out.2 (c' := ⟨⟨segs', bytes', ⟨ga, gb', gc, gd, gt, gk, gch, gp⟩, whole'⟩, .slice B1 segs'.length z1, .slice B2 bytes'.length z2⟩) ⟨hn1, hn2⟩ HOK.out (by rw [HQ.out.2]; exact hw1) (by rw [HQ.out.2]; exact hw2) (by rw [HQ.out.2]; exact mv)
             obtain ⟨hm6, hb6, hput, hdel, haf, hcf, hcn⟩ := hadd
             rw [HQ.out.2] at haf
             have haf' : ∀ k, addF (w.heap.size + 1 + 1 + 1) (.slice A1 segs.length x1) (.slice A2 bytes.length x2) k → k = w.heap.size + 1 + 1 + 1 ∨ k < w.heap.size := fun k hk => (haf k hk).imp id fun h => (HGF.out.1 k h).2
             have hF6 : BoxF w6 w.heap.size _ := (mv.block _ (by omega) (fun hk => by have := haf' _ hk; omega)).trans hF5
             have hA6 : BoxA w6 (w.heap.size + 1) 0 0 (.slice none 0 0) := (mv.block _ (by omega) (fun hk => by have := haf' _ hk; omega)).trans (H4.out.2.2.1.kept hb5 (Nat.le_refl _))
             have hK6 := (mv.block (w.heap.size + 1 + 1) (by omega) (fun hk => by have := haf' _ hk; omega)).trans ((hb5.block _ (by omega)).trans H4.out.2.2.2.1)
             have t1 := hF6.c1
             have t3 := hF6.c3
             have g1 : w6.cell? ⟨gb, 1, none⟩ = some (.map (some mb)) := by rw [cell_of_row w6 gb _ _ 54 (0, 0) hb6]; rfl
             have k0 : w6.cell? ⟨w.heap.size + 1 + 1, 0, none⟩ = some (.int .u16 fch) := by rw [cell_of_row _ _ _ _ 55 (0, 0) hK6]; rfl
             have k1 : w6.cell? ⟨w.heap.size + 1 + 1, 1, none⟩ = some (.int .u16 fk) := by rw [cell_of_row _ _ _ _ 55 (0, 0) hK6]; rfl
             clear r0 r1 r2 r3 r4 r5 r6 r7))
        obtain ⟨w7, hrun, hm7, hg7, hs7⟩ := MapIs.drop (w := w6.drew) (hm6.keep rfl) HQ.out.1 0
        have hrun' : (Builtin.delete_ #[52, 55] 0 #[.map (some mb), .agg #[.int .u16 fch, .int .u16 fk]]).run Try.prog w6.drew = .ok (.tuple #[]) w7 := hrun
        have hmbl : mb < w.heap.size := (HGF.out.1 mb (.inr (.inl rfl))).2
        have hk7 : ∀ k, k < w6.heap.size → k ≠ mb → w7.heap[k]? = w6.heap[k]? := fun k hk hne => hg7.block k hk (fun e => hne (Option.some.inj e))
        have h56 := mv.size
        have hA7 : BoxA w7 (w.heap.size + 1) 0 0 (.slice none 0 0) := (hk7 _ (by omega) (by omega)).trans hA6
        have hF7 : BoxF w7 w.heap.size _ := (hk7 _ (by omega) (by omega)).trans hF6
        have hX7 : BoxP w7 (w.heap.size + 1 + 1 + 1) _ _ _ _ := (hk7 _ (by omega) (by omega)).trans hX6
        have hc1 := hn1.keep (w' := w7) fun k hk => hk7 k (hn1.block k hk).2 (hcn k (.inl hk)).1
        have hc2 := hn2.keep (w' := w7) fun k hk => hk7 k (hn2.block k hk).2 (hcn k (.inr hk)).1
        have hg67 : w6.grownBy w7 (some mb) := ⟨hg7.os, hg7.tape, hg7.output, hg7.size, hg7.block⟩
        obtain ⟨hL7, hG7⟩ := hdel w7 hm7 hg67
        have HB05 := Lib.hid (H4.out.2.2.2.2.2.2.1.trans (hb5.mono H4.out.2.2.2.2.2.2.1.size))
        have HMV := Lib.hid (And.intro mv (And.intro haf (And.intro hg67 (And.intro hL7 hG7))))
        have hs67 : w7.heap.size = w6.heap.size := hs7
        have H7 := Lib.hid (And.intro hA7 (And.intro hF7 (And.intro hX7 (And.intro hc1 (And.intro hc2 (by omega : w.heap.size + 1 + 1 + 1 + 1 ≤ w7.heap.size))))))
        clear hA7 hF7 hX7 hc1 hc2 hL7 hG7 hg67 hput hdel hcf hcn mv haf haf' hm7 hg7 hrun hn1 hn2 hw1 hw2 hX6 hF6 hA6 hK6 hm6 hb6 hk7
        go_cut [4, 3, 8] from 73 to 77 (fun a b c wx => a = .pointer (some ⟨w.heap.size + 1, 0, none⟩) ∧ b = .pointer (some ⟨w.heap.size, 0, none⟩) ∧ c = .pointer (some ⟨w.heap.size + 1 + 1 + 1, 0, none⟩) ∧ wx = w7)
        case first =>
          go_region
          all_goals
            go_wp2_with fail
            go_meet
            exact ⟨rfl, rfl, rfl, rfl⟩
        case rest =>
          obtain ⟨rfl, rfl, rfl, hww⟩ := hcut
          rw [hww]
          clear hww
          obtain ⟨d1, _, hsh1⟩ := H7.out.2.2.2.1.shows
          obtain ⟨d2, _, hsh2⟩ := H7.out.2.2.2.2.1.shows
          have hW0 := pwhole_any (w.heap.size + 1 + 1 + 1) d1 d2 z1 z2 B1 B2 ⟨segs', bytes', ⟨ga, gb', gc, gd, gt, gk, gch, gp⟩, whole'⟩ w7.drew H7.out.2.2.1 hsh1 hsh2 (by have h1 := HOK.out.segs; have h2 := HOK.out.head; simp only at h1 h2 ⊢; omega) HOK.out.bytes HOK.out.mono HOK.out.ends
          unfold WholeSaid at hW0
          have HW := Lib.hid hW0
          have u5 := H7.out.2.1.c5
          have u6 := H7.out.2.1.c6
          have u5d : w7.drew.cell? ⟨w.heap.size, 5, none⟩ = _ := u5
          have u6d : w7.drew.cell? ⟨w.heap.size, 6, none⟩ = _ := u6
          clear hsh1 hsh2 hW0 u5 u6
          go_upto_region 16 with fail
          go_region_with ((go_at_call 16
                           refine HW.out.mono ?_
                           rintro e w8 ⟨v8, rfl, ho8, hb8⟩
                           obtain ⟨A8, n8, c8, rfl⟩ : ∃ A n c, v8 = .slice A n c := by
                             obtain ⟨A, c, e, _⟩ := ho8.form
                             exact ⟨_, _, _, e⟩
                           have hb78 : Below w7.heap.size w7 w8 := ⟨hb8.os, hb8.tape, hb8.output, hb8.size, hb8.block⟩
                           have ho8' : OwnG sgC 46 w8 w7.heap.size (.slice A8 n8 c8) (wholeD bytes' segs') := ho8
                           have hA8 := H7.out.1.kept hb78 (Nat.le_refl _)
                           have hF8 := H7.out.2.1.kept hb78 (Nat.le_refl _)
                           have a0 := hA8.c0
                           have a1 := hA8.c1
                           have a2 := hA8.c2
                           have e5 := hF8.c5
                           have e6 := hF8.c6
                           have af0 : w8.frozen? ⟨w.heap.size + 1, 0, none⟩ = false := frozen_of_row w8 _ 0 _ 34 hA8
                           have af1 : w8.frozen? ⟨w.heap.size + 1, 1, none⟩ = false := frozen_of_row w8 _ 1 _ 34 hA8
                           have af2 : w8.frozen? ⟨w.heap.size + 1, 2, none⟩ = false := frozen_of_row w8 _ 2 _ 34 hA8
                           have HA8 := Lib.hid (And.intro hA8 (And.intro hb78 ho8'))
                           clear hA8 hF8 hb78 ho8' ho8 hb8))
          all_goals
            go_wp2_with fail
            obtain ⟨hA8, hb78, ho8⟩ := HA8.out
            have s1 := heap_setCell_same _ (w.heap.size + 1) 0 _ 34 (.int .u16 fch) hA8
            have s2 := heap_setCell_same _ (w.heap.size + 1) 1 _ 34 (.int .u8 fk) s1
            have s3 := heap_setCell_same _ (w.heap.size + 1) 2 _ 34 (.slice A8 n8 c8) s2
            refine bodyPost_ret (results_c3 rfl _ _ (w.heap.size + 1) 34 _ (0, 0) _ rfl s3 Try.underlying34 rfl (by kernel_rfl)) rfl ?_
            rw [HRES.out]
            obtain ⟨mv, haf, hg67, hL7, hG7⟩ := HMV.out
            have hb5s := HB05.out.size
            have hs7' := H7.out.2.2.2.2.2
            have hset : ∀ (W : World) (i : Nat) (v : Value) (k : Nat), k ≠ w.heap.size + 1 → (W.setCell ⟨w.heap.size + 1, i, none⟩ v).heap[k]? = W.heap[k]? := fun W i v k hk => Below.heap_setCell _ _ _ _ hk
            have hkn : ∀ k, GF gb mb (delM cs (fch, fk)) k → k ≠ w.heap.size + 1 ∧ k < w7.heap.size := fun k hk => by
              have := (HGF.out.1 k (hG7 k hk)).2
              omega
            refine ⟨.slice A8 n8 c8, _, rfl, (ho8.keep fun k hk => ?_).mono (by omega), ⟨mb, _, hL7.keep fun k hk => ?_, delM_map (fun c : Cel => c.p) (fch, fk) cs, rfl⟩, fun k hk => .inl (hG7 k hk), ?_⟩
            · have hn : k ≠ w.heap.size + 1 := by have := (ho8.block k hk).1; omega
              exact (hset _ _ _ k hn).trans ((hset _ _ _ k hn).trans (hset _ _ _ k hn))
            · obtain ⟨hn, hl⟩ := hkn k hk
              exact (hset _ _ _ k hn).trans ((hset _ _ _ k hn).trans ((hset _ _ _ k hn).trans (hb78.block k hl)))
            · have hm := (Moved.of_below (F := GF gb mb cs) HB05.out).trans mv (fun k hk ha => by
                rcases haf k ha with e | e
                · omega
                · exact e)
              have hm2 := hm.trans (Moved.of_grown (F := GF gb mb cs) hg67 (fun k hk => by cases hk; exact .inr (.inl rfl))) (fun k _ h => h)
              have hm3 := hm2.trans (Moved.of_below (F := GF gb mb cs) hb78) (fun k _ h => h)
              exact ((hm3.setCell (k := w.heap.size + 1) (fun h => by omega) 0 (.int .u16 fch)).setCell (k := w.heap.size + 1) (fun h => by omega) 1 (.int .u8 fk)).setCell (k := w.heap.size + 1) (fun h => by omega) 2 (.slice A8 n8 c8)
      · have hres := H3.out hlast
        have HRES := Lib.hid hres
        have hcase : (fb = false) ∨ (fb = true ∧ fd = false) := by
          cases fb <;> cases fd <;> simp_all
        clear hres H2 H3 hlast
        rcases hcase with rfl | ⟨rfl, rfl⟩ <;>
        · go_upto_region 13 with (first
            | (go_at_call 14
               refine (HR.out _).mono ?_
               rintro e w5 ⟨rfl, hb5⟩
               have hL5 := H4.out.2.2.2.2.1.keep fun k hk => hb5.block k (H4.out.2.2.2.2.1.foot k hk).2
               have hX5 := H4.out.1.kept hb5 (Nat.le_refl _)
               have hF5 := H4.out.2.1.kept hb5 (Nat.le_refl _)
               have hC5 := H4.out.2.2.2.2.2.1.keep fun k hk => hb5.block k (H4.out.2.2.2.2.2.1.has hk).2
               have r0 := hF5.c0
               have r1 := hF5.c1
               have r2 := hF5.c2
               have r3 := hF5.c3
               have r4 := hF5.c4
               have r5 := hF5.c5
               have r6 := hF5.c6
               have r7 := hF5.c7)
            | (go_at_call 15
               refine (HAD.out w5 (HB5.out _ hb5) hX5 hC5.o1 hC5.o2).mono ?_
               rintro e w6 ⟨rfl, v1', v2', hX6, hn1, hn2, hw1, hw2, mv⟩
               have hX6 : BoxP w6 (w.heap.size + 1 + 1 + 1) v1' v2' ⟨ga, gb', gc, gd, gt, gk, gch, gp⟩ whole' := hX6
               have hn1 : OwnG sgmC 74 w6 B v1' segs' := hn1
               have hn2 : Own 5 w6 B v2' bytes' := hn2
               obtain ⟨B1, z1, rfl, _, _⟩ := hn1.form
               obtain ⟨B2, z2, rfl, _, _⟩ := hn2.form
               have hsz5 := hb5.size
               have hadd := hL5.add (q := (fch, fk)) (HB5.out _ hb5) HGF.out.2 (c' := ⟨⟨segs', bytes', ⟨ga, gb', gc, gd, gt, gk, gch, gp⟩, whole'⟩, .slice B1 segs'.length z1, .slice B2 bytes'.length z2⟩) ⟨hn1, hn2⟩ HOK.out (by rw [HQ.out.2]; exact hw1) (by rw [HQ.out.2]; exact hw2) (by rw [HQ.out.2]; exact mv)
               obtain ⟨hm6, hb6, hput, hdel, haf, hcf, hcn⟩ := hadd
               rw [HQ.out.2] at haf
               have haf' : ∀ k, addF (w.heap.size + 1 + 1 + 1) (.slice A1 segs.length x1) (.slice A2 bytes.length x2) k → k = w.heap.size + 1 + 1 + 1 ∨ k < w.heap.size := fun k hk => (haf k hk).imp id fun h => (HGF.out.1 k h).2
               have hF6 : BoxF w6 w.heap.size _ := (mv.block _ (by omega) (fun hk => by have := haf' _ hk; omega)).trans hF5
               have hA6 : BoxA w6 (w.heap.size + 1) 0 0 (.slice none 0 0) := (mv.block _ (by omega) (fun hk => by have := haf' _ hk; omega)).trans (H4.out.2.2.1.kept hb5 (Nat.le_refl _))
               have hK6 := (mv.block (w.heap.size + 1 + 1) (by omega) (fun hk => by have := haf' _ hk; omega)).trans ((hb5.block _ (by omega)).trans H4.out.2.2.2.1)
               have t1 := hF6.c1
               have t3 := hF6.c3
               have g1 : w6.cell? ⟨gb, 1, none⟩ = some (.map (some mb)) := by rw [cell_of_row w6 gb _ _ 54 (0, 0) hb6]; rfl
               have k0 : w6.cell? ⟨w.heap.size + 1 + 1, 0, none⟩ = some (.int .u16 fch) := by rw [cell_of_row _ _ _ _ 55 (0, 0) hK6]; rfl
               have k1 : w6.cell? ⟨w.heap.size + 1 + 1, 1, none⟩ = some (.int .u16 fk) := by rw [cell_of_row _ _ _ _ 55 (0, 0) hK6]; rfl
               clear r0 r1 r2 r3 r4 r5 r6 r7))
          have c0 := hX6.c0
          have c1 := hX6.c1
          have c2 := hX6.c2
          have c3 := hX6.c3
          have c4 := hX6.c4
          have c5 := hX6.c5
          have c6 := hX6.c6
          have c7 := hX6.c7
          have c8 := hX6.c8
          have c9 := hX6.c9
          have c10 := hX6.c10
          obtain ⟨w7, hrun, hm7, hg7, hs7⟩ := MapIs.store (w := w6.drew) (hm6.keep rfl) HQ.out.1 (Cel.val ⟨⟨segs', bytes', ⟨ga, gb', gc, gd, gt, gk, gch, gp⟩, whole'⟩, .slice B1 segs'.length z1, .slice B2 bytes'.length z2⟩)
          have hrun' : (Instr.mapUpdate 52 (.map (some mb)) (.agg #[.int .u16 fch, .int .u16 fk]) (.agg #[.slice B1 segs'.length z1, .slice B2 bytes'.length z2, .bool ga, .bool gb', .bool gc, .bool gd, .int .u8 gt, .int .u8 gk, .int .u16 gch, .string gp, .bool whole'])).run Try.prog w6.drew = .ok () w7 := hrun
          have hmbl : mb < w.heap.size := (HGF.out.1 mb (.inr (.inl rfl))).2
          have hA7 : BoxA w7 (w.heap.size + 1) 0 0 (.slice none 0 0) := (hg7.block _ (by show _ < w6.heap.size; have := mv.size; omega) (fun e => by have := Option.some.inj e; omega)).trans hA6
          have a0 := hA7.c0
          have a1 := hA7.c1
          have a2 := hA7.c2
          have af0 : w7.frozen? ⟨w.heap.size + 1, 0, none⟩ = false := frozen_of_row w7 _ 0 _ 34 hA7
          have af1 : w7.frozen? ⟨w.heap.size + 1, 1, none⟩ = false := frozen_of_row w7 _ 1 _ 34 hA7
          have af2 : w7.frozen? ⟨w.heap.size + 1, 2, none⟩ = false := frozen_of_row w7 _ 2 _ 34 hA7
          have hg67 : w6.grownBy w7 (some mb) := ⟨hg7.os, hg7.tape, hg7.output, hg7.size, hg7.block⟩
          obtain ⟨hL7, hF7⟩ := hput w7 hm7 hg67
          have HB05 := Lib.hid (H4.out.2.2.2.2.2.2.1.trans (hb5.mono H4.out.2.2.2.2.2.2.1.size))
          have HMV := Lib.hid (And.intro mv (And.intro haf (And.intro hg67 (And.intro hL7 hF7))))
          have HA7 := Lib.hid hA7
          clear hA7 hL7 hF7 hg67 hput hdel hcf hcn mv haf haf' hm7 hg7 hrun hn1 hn2 hw1 hw2 hX6 hF6 hA6 hK6 hm6 hb6
          go_region
          all_goals
            go_wp2_with fail
            have s1 := heap_setCell_same _ (w.heap.size + 1) 0 _ 34 (.int .u16 0) HA7.out
            have s2 := heap_setCell_same _ (w.heap.size + 1) 1 _ 34 (.int .u8 0) s1
            have s3 := heap_setCell_same _ (w.heap.size + 1) 2 _ 34 (.slice none 0 0) s2
            refine bodyPost_ret (results_c3 rfl _ _ (w.heap.size + 1) 34 _ (0, 0) _ rfl s3 Try.underlying34 rfl (by kernel_rfl)) rfl ?_
            rw [HRES.out]
            obtain ⟨mv, haf, hg67, hL7, hF7⟩ := HMV.out
            have hb5s := HB05.out.size
            have hset : ∀ (W : World) (i : Nat) (v : Value) (k : Nat), k ≠ w.heap.size + 1 → (W.setCell ⟨w.heap.size + 1, i, none⟩ v).heap[k]? = W.heap[k]? := fun W i v k hk => Below.heap_setCell _ _ _ _ hk
            have hkn : ∀ k, GF gb mb (putM cs (fch, fk) (⟨⟨segs', bytes', ⟨ga, gb', gc, gd, gt, gk, gch, gp⟩, whole'⟩, .slice B1 segs'.length z1, .slice B2 bytes'.length z2⟩ : Cel)) k → k ≠ w.heap.size + 1 := fun k hk => by
              rcases hF7 k hk with h1 | h1
              · have := (HGF.out.1 k h1).2
                omega
              · omega
            refine ⟨.slice none 0 0, _, rfl, OwnG.nil_ _ _ _ _, ⟨mb, _, hL7.keep fun k hk => ((hset _ _ _ k (hkn k hk)).trans ((hset _ _ _ k (hkn k hk)).trans (hset _ _ _ k (hkn k hk)))), putM_map (fun c : Cel => c.p) (fch, fk) (⟨⟨segs', bytes', ⟨ga, gb', gc, gd, gt, gk, gch, gp⟩, whole'⟩, .slice B1 segs'.length z1, .slice B2 bytes'.length z2⟩ : Cel) cs, rfl⟩, fun k hk => (hF7 k hk).imp id (fun h => by omega), ?_⟩
            have hm := (Moved.of_below (F := GF gb mb cs) HB05.out).trans mv (fun k hk ha => by
              rcases haf k ha with e | e
              · omega
              · exact e)
            have hm2 := hm.trans (Moved.of_grown (F := GF gb mb cs) hg67 (fun k hk => by cases hk; exact .inr (.inl rfl))) (fun k _ h => h)
            exact ((hm2.setCell (k := w.heap.size + 1) (fun h => by omega) 0 (.int .u16 0)).setCell (k := w.heap.size + 1) (fun h => by omega) 1 (.int .u8 0)).setCell (k := w.heap.size + 1) (fun h => by omega) 2 (.slice none 0 0)
    · have hres := HR1.out hr
      generalize refusedD ⟨fa, fb, fc, fd, ft, fk, fch, fp⟩ o = r at *
      have hrI : ((r : Int) != 0) = true := by simp; omega
      clear hr HR1 HR2 HR3
      have HRES := Lib.hid hres
      clear hres
      simp only [Fr.vs, ptVs] at HR
      go_wp2_with (go_at_call 14
                   refine (HR.out _).mono ?_
                   rintro e w5 ⟨rfl, hb5⟩
                   have hL5 := H4.out.2.2.2.2.1.keep fun k hk => hb5.block k (H4.out.2.2.2.2.1.foot k hk).2
                   have g0 := hL5.c0
                   have g1 := hL5.c1
                   have gf0 := hL5.fr 0
                   have gf1 := hL5.fr 1
                   have hA5 := H4.out.2.2.1.kept hb5 (Nat.le_refl _)
                   have a0 := hA5.c0
                   have a1 := hA5.c1
                   have a2 := hA5.c2
                   have af0 : w5.frozen? ⟨w.heap.size + 1, 0, none⟩ = false := frozen_of_row w5 _ 0 _ 34 hA5
                   have af1 : w5.frozen? ⟨w.heap.size + 1, 1, none⟩ = false := frozen_of_row w5 _ 1 _ 34 hA5
                   have af2 : w5.frozen? ⟨w.heap.size + 1, 2, none⟩ = false := frozen_of_row w5 _ 2 _ 34 hA5)
      have hb05 := H4.out.2.2.2.2.2.2.1.trans (hb5.mono H4.out.2.2.2.2.2.2.1.size)
      have hne : gb ≠ w.heap.size + 1 := by omega
      have s1 := heap_setCell_same w5 gb 0 _ 54 (.int .u8 2) hL5.box
      have s2 := heap_setCell_same _ gb 1 _ 54 (.map none) s1
      have hset : ∀ (W : World) (i : Nat) (v : Value), (W.setCell ⟨w.heap.size + 1, i, none⟩ v).heap[gb]? = W.heap[gb]? := fun W i v => Below.heap_setCell _ _ _ _ hne
      have hset' : ∀ (W : World) (i : Nat) (v : Value), (W.setCell ⟨gb, i, none⟩ v).heap[w.heap.size + 1]? = W.heap[w.heap.size + 1]? := fun W i v => Below.heap_setCell _ _ _ _ (fun e => hne e.symm)
      have t0 := (hset' _ 1 (.map none)).trans ((hset' w5 0 (.int .u8 2)).trans hA5)
      have t1 := heap_setCell_same _ (w.heap.size + 1) 0 _ 34 (.int .u16 0) t0
      have t2 := heap_setCell_same _ (w.heap.size + 1) 1 _ 34 (.int .u8 0) t1
      have t3 := heap_setCell_same _ (w.heap.size + 1) 2 _ 34 (.slice none 0 0) t2
      refine bodyPost_ret (results_c3 rfl _ _ (w.heap.size + 1) 34 _ (0, 0) _ rfl t3 Try.underlying34 rfl (by kernel_rfl)) rfl ?_
      rw [HRES.out]
      refine ⟨.slice none 0 0, fun k => k = gb, rfl, OwnG.nil_ _ _ _ _, ⟨(hset _ _ _).trans ((hset _ _ _).trans ((hset _ _ _).trans s2)), hL5.bg, rfl⟩, fun k hk => .inl (.inl hk), ?_⟩
      have hm := ((Moved.of_below (F := GF gb mb cs) hb05).setCell (k := gb) (fun _ => .inl rfl) 0 (.int .u8 2)).setCell (k := gb) (fun _ => .inl rfl) 1 (.map none)
      exact ((hm.setCell (k := w.heap.size + 1) (fun h => by omega) 0 (.int .u16 0)).setCell (k := w.heap.size + 1) (fun h => by omega) 1 (.int .u8 0)).setCell (k := w.heap.size + 1) (fun h => by omega) 2 (.slice none 0 0)

end Go.Proofs.Ytocankfabgjjmaa
