/-
  For any properties, any body, any channel and length of pieces: what is a message's is gathered as it was from its frames' bytes, and with the first frame, or the last one, left out nothing is told.
  Conditions: crc's table reads as the program lays it.
-/
import Derived.Deep.RegionHeld3
import Derived.Deep.CutRange
import Derived.Deep.CutBlock
import Derived.Deep.DeepCutAuto
import Derived.Test.YtdjahdnaihijjaaGreatDoorToAZ
import Derived.Test.YtdjahdnaihijjaaGreatDoorToPZ
import Derived.Test.YtdjahdnaihijjaaGreatDoorGaKZ
import Derived.Test.YtdjahdnaihijjaaGreatDoorGaFZ
import Derived.Test.YtdjahdnaihijjaaGreatDoorFrGZ
import Derived.Test.YtdjahdnaihijjaaGreatDoorPrIZ
import Derived.Test.YtdjahdnaihijjaaGreatDoorPrFZ
namespace Go.Proofs.YtdjahdnaihijjaaGreatDoor
open Go.RowKit
set_option linter.unusedVariables false
set_option linter.unusedSimpArgs false

/-- The arguments' boxes. -/
structure TwoB (w : World) (p : PropP) (v0 v1 v2 v3 v4 : Value) (ch sz : Nat) (lst : Bool) (wx : World) : Prop where
  a : BoxPr wx w.heap.size p v0 v1 v2 v3 v4
  b : wx.heap[w.heap.size + 1]? = some (.cells #[.int .u16 ch, .int .u16 sz, .bool lst] 32 (0, 0))
  bel : Below w.heap.size w wx
section
variable {w wx wy : World} {p : PropP} {v0 v1 v2 v3 v4 : Value} {ch sz : Nat} {lst : Bool}
theorem TwoB.step (h : TwoB w p v0 v1 v2 v3 v4 ch sz lst wx) (hb : Below wx.heap.size wx wy) : TwoB w p v0 v1 v2 v3 v4 ch sz lst wy :=
  ⟨h.a.kept hb (Nat.le_refl _), (hb.block _ (Array.getElem?_eq_some_iff.1 h.b).1).trans h.b, h.bel.trans (hb.mono h.bel.size)⟩
theorem TwoB.new (w : World) : TwoB w p v0 v1 v2 v3 v4 ch sz lst ((w.alloc (Obj.cells #[.string p.key, .bool p.dur, .bool p.red, .string p.id, v0, v1, v2, v3, v4] 29)).alloc (Obj.cells #[.int .u16 ch, .int .u16 sz, .bool lst] 32)) := by
  have h1 := below_boxV w (Obj.cells #[.string p.key, .bool p.dur, .bool p.red, .string p.id, v0, v1, v2, v3, v4] 29)
  have h2 := below_boxV (w.alloc (Obj.cells #[.string p.key, .bool p.dur, .bool p.red, .string p.id, v0, v1, v2, v3, v4] 29)) (Obj.cells #[.int .u16 ch, .int .u16 sz, .bool lst] 32)
  refine ⟨(BoxPr.new w).kept h2 (Nat.le_refl _), ?_, h1.trans (h2.mono h1.size)⟩
  have h3 := heap_alloc_new (w.alloc (Obj.cells #[.string p.key, .bool p.dur, .bool p.red, .string p.id, v0, v1, v2, v3, v4] 29)) (Obj.cells #[.int .u16 ch, .int .u16 sz, .bool lst] 32)
  rw [World.size_alloc] at h3
  exact h3
theorem TwoB.x (h : TwoB w p v0 v1 v2 v3 v4 ch sz lst wx) : wx.cell? ⟨w.heap.size + 1, 0, none⟩ = some (.int .u16 ch) ∧ wx.cell? ⟨w.heap.size + 1, 1, none⟩ = some (.int .u16 sz) ∧ wx.cell? ⟨w.heap.size + 1, 2, none⟩ = some (.bool lst) :=
  ⟨cell_of_row wx _ 0 _ 32 (0, 0) h.b, cell_of_row wx _ 1 _ 32 (0, 0) h.b, cell_of_row wx _ 2 _ 32 (0, 0) h.b⟩
end
theorem piece_wraps (sz : Nat) (h : sz < 65536) : IntKind.i64.wrap (sz : Int) = (sz : Int) ∧ wrap64 (sz : Int) = (sz : Int) ∧ (sz : Int).tmod 200 = ((sz % 200 : Nat) : Int) ∧ wrap64 (1 + ((sz % 200 : Nat) : Int)) = ((1 + sz % 200 : Nat) : Int) ∧ IntKind.i64.wrap (1 + ((sz % 200 : Nat) : Int)) = ((1 + sz % 200 : Nat) : Int) ∧ IntKind.i64.wrap ((sz % 200 : Nat) : Int) = ((sz % 200 : Nat) : Int) := by
  have e : (1 : Int) + ((sz % 200 : Nat) : Int) = ((1 + sz % 200 : Nat) : Int) := by omega
  refine ⟨i64_id _ (by omega) (by omega), w64_id _ (by omega) (by omega), by rw [Int.tmod_eq_emod_of_nonneg (by omega)]; rfl, ?_, ?_, i64_id _ (by omega) (by omega)⟩
  · rw [e]; exact w64_id _ (by omega) (by omega)
  · rw [e]; exact i64_id _ (by omega) (by omega)

set_option maxRecDepth 100000 in
set_option maxHeartbeats 16000000 in
theorem topmsg_walk (p : PropP) (v0 v1 v2 v3 v4 : Value) (s : ByteArray) (ch sz : Nat) (lst : Bool) (w : World) (hT : Crc.Tab w) (hp : ShowsP w p v0 v1 v2 v3 v4) (hs : s.size ≤ 140737488351232) (hch : ch < 65536) (hsz : sz < 65536) :
    Calls Tryz.prog 3 #[propV p v0 v1 v2 v3 v4, .string s, .agg #[.int .u16 ch, .int .u16 sz, .bool lst]] w fun e w' => e = .returned (.bool true) ∧ Below w.heap.size w w' := by
  have HAW := Lib.hid (fun w' (hb : Below w.heap.size w w') => (awake_any w' (hT.below hb hT.1)).mono fun e w'' h => (show e = .returned (.bool true) ∧ Below w.heap.size w w'' from ⟨h.1, hb.trans (h.2.mono hb.size)⟩))
  have HPO := Lib.hid (fun (hv : validPr p) w' (hw' : Below w.heap.size w w') => pput_ok p v0 v1 v2 v3 v4 w' (hp.kept hw' (Nat.le_refl _)) trivial hv)
  have HPN := Lib.hid (fun (hv : ¬ validPr p) w' (hw' : Below w.heap.size w w') => pput_no p v0 v1 v2 v3 v4 w' (hp.kept hw' (Nat.le_refl _)) trivial hv)
  have HSP := Lib.hid (fun (hc : cntT p.app ≤ 1000000) w' (hw' : Below w.heap.size w w') c0 c1 c2 c3 c4 (h : ShowsP w' p c0 c1 c2 c3 c4) => psame_any p p v0 v1 v2 v3 v4 c0 c1 c2 c3 c4 w' (hp.kept hw' (Nat.le_refl _)) h hc)
  rw [samePr_refl] at HSP
  have HGP := Lib.hid (fun (hv : validPr p) w' => pget_any (str8 (encPr p)) w' (by rw [str8_size]; have := enc_len hv; omega))
  have HGE := Lib.hid (fun (hv : validPr p) => get_enc hv)
  rw [sb_str8] at HGP
  unfold PGetSaid at HGP
  have HCN := Lib.hid (show validPr p → cntT p.app ≤ 1000000 from fun hv => by
    rcases hv.2.2 with ⟨_, hc⟩ | hz
    · exact Nat.le_trans (pcheck_cnt hc) (by decide)
    · rw [hz]; decide)
  obtain ⟨x0, x1, x2, x3, x4, x5, x6, x7, x8, hvs⟩ := hp.app.cells5
  simp only [List.cons.injEq, and_true] at hvs
  obtain ⟨rfl, rfl, rfl, rfl, rfl⟩ := hvs
  have hB0 := TwoB.new (p := p) (v0 := .int .u8 x0) (v1 := .int .u64 x1) (v2 := .string x2) (v3 := .slice x3 x4 x5) (v4 := .slice x6 x7 x8) (ch := ch) (sz := sz) (lst := lst) w
  clear hp hT
  obtain ⟨pk, pd, pr, pi, pa⟩ := p
  unfold propV at HPO HPN HSP HGP ⊢
  simp only [] at HPO HPN HSP HGP HCN hB0 ⊢
  have HB0 := Lib.hid hB0
  obtain ⟨W0, hW0⟩ : ∃ W0, W0 = (w.alloc (Obj.cells #[.string pk, .bool pd, .bool pr, .string pi, .int .u8 x0, .int .u64 x1, .string x2, .slice x3 x4 x5, .slice x6 x7 x8] 29)).alloc (Obj.cells #[.int .u16 ch, .int .u16 sz, .bool lst] 32) := ⟨_, rfl⟩
  rw [← hW0] at HB0
  clear hB0
  go_enter Tryz.func3, Tryz.ntmps3
  go_upto_region 1 with fail
  rw [← hW0]
  clear hW0
  obtain ⟨⟨p0, p1, p2, p3⟩, p4, p5, p6, p7, p8⟩ := HB0.out.a.cells
  simp only [] at p0 p1 p2 p3
  by_cases hv : validPr ⟨pk, pd, pr, pi, pa⟩
  case neg =>
    go_wp2_with fail
    refine (HPN.out hv _ HB0.out.bel).mono ?_
    rintro e w1 ⟨rfl, hb1⟩
    have HB1 := Lib.hid (HB0.out.step hb1)
    clear p0 p1 p2 p3 p4 p5 p6 p7 p8 hb1
    go_wp2_with fail
    refine (HAW.out _ HB1.out.bel).mono ?_
    rintro e w2 ⟨rfl, hb2⟩
    go_wp2_with fail
    go_ret
    exact ⟨rfl, hb2⟩
  have HPa := Lib.hid (HPO.out hv _ HB0.out.bel)
  have HGa := Lib.hid (HGP.out hv)
  rw [HGE.out hv] at HGa
  have HSa := Lib.hid (HSP.out (HCN.out hv))
  clear HPO HPN HGP HGE HSP HCN hv
  generalize str8 (encPr ⟨pk, pd, pr, pi, pa⟩) = hh at *
  go_wp2_with fail
  refine HPa.out.mono ?_
  rintro e w1 ⟨rfl, hb1⟩
  have HB1 := Lib.hid (HB0.out.step hb1)
  clear p0 p1 p2 p3 p4 p5 p6 p7 p8 hb1 HB0 HPa
  by_cases hz1 : hh.size ≤ 4000
  case neg =>
    have t1 : decide ((4000 : Int) < (hh.size : Int)) = true := by simp; omega
    go_wp2_with fail
    refine (HAW.out _ HB1.out.bel).mono ?_
    rintro e w2 ⟨rfl, hb2⟩
    go_wp2_with fail
    go_ret
    exact ⟨rfl, hb2⟩
  have t1 : decide ((4000 : Int) < (hh.size : Int)) = false := by simp; omega
  by_cases hz2 : s.size ≤ 4000
  case neg =>
    have t2 : decide ((4000 : Int) < (s.size : Int)) = true := by simp; omega
    go_wp2_with fail
    refine (HAW.out _ HB1.out.bel).mono ?_
    rintro e w2 ⟨rfl, hb2⟩
    go_wp2_with fail
    go_ret
    exact ⟨rfl, hb2⟩
  have t2 : decide ((4000 : Int) < (s.size : Int)) = false := by simp; omega
  obtain ⟨q0, q1, q2⟩ := HB1.out.x
  have hbA := below_boxV w1 (Obj.cells #[.int .u8 1, .string ⟨#[120]⟩, .int .u8 2, .string hh, .int .u8 3, .string s] 38)
  have hsA : ShowsG sgC (w1.alloc (Obj.cells #[.int .u8 1, .string ⟨#[120]⟩, .int .u8 2, .string hh, .int .u8 3, .string s] 38)) w1.heap.size (.slice (some ⟨w1.heap.size, 0, none⟩) 3 3) (msgS hh s) := ShowsG.lit (C := sgC) (msgS hh s) (by simp [Code.all, sgC, msgS]) (by simp [maxLen, msgS])
  obtain ⟨W2, hW2⟩ : ∃ W2, W2 = w1.alloc (Obj.cells #[.int .u8 1, .string ⟨#[120]⟩, .int .u8 2, .string hh, .int .u8 3, .string s] 38) := ⟨_, rfl⟩
  have HXB := Lib.hid (show W2.heap.size = w1.heap.size + 1 by rw [hW2]; simp)
  rw [← hW2] at hbA hsA
  have hbB := below_boxV W2 (Obj.cells #[.int .u16 ch, .int .u8 1, .slice (some ⟨w1.heap.size, 0, none⟩) 3 3] 41)
  have hXB : BoxA (W2.alloc (Obj.cells #[.int .u16 ch, .int .u8 1, .slice (some ⟨w1.heap.size, 0, none⟩) 3 3] 41)) W2.heap.size ch 1 (.slice (some ⟨w1.heap.size, 0, none⟩) 3 3) := BoxA.new W2 ch 1 (.slice (some ⟨w1.heap.size, 0, none⟩) 3 3)
  obtain ⟨W3, hW3⟩ : ∃ W3, W3 = W2.alloc (Obj.cells #[.int .u16 ch, .int .u8 1, .slice (some ⟨w1.heap.size, 0, none⟩) 3 3] 41) := ⟨_, rfl⟩
  rw [← hW3] at hbB hXB
  have HB3 := Lib.hid ((HB1.out.step hbA).step hbB)
  have hs3 := hsA.below' hbB (Nat.le_refl _)
  go_upto_region 5 with fail
  rw [← hW2, ← hW3]
  clear hW2 hW3 hbA hbB hsA q0 q1 q2 t1 t2
  obtain ⟨m, hm⟩ : ∃ m, m = 1 + sz % 200 := ⟨_, rfl⟩
  obtain ⟨hn1, hn2, hn3, hn4, hn5, hn6⟩ := piece_wraps sz hsz
  rw [← hm] at hn4 hn5
  have hm1 : 1 ≤ m := by omega
  have hm2 : m ≤ 200 := by omega
  have HF := Lib.hid (msgF hm1 hm2 hch hz1 hz2)
  generalize framesD m 1 ch true (msgS hh s) = L at HF
  have HCUT : Hid (∀ w', Below W3.heap.size W3 w' → Calls Tryz.prog 6 #[.agg #[.int .u16 ch, .int .u8 1, .slice (some ⟨w1.heap.size, 0, none⟩) 3 3], .int .i64 m] w' fun e w'' => ∃ v, e = .returned (.tuple #[v, .int .i64 0]) ∧ OwnG frC 51 w'' w'.heap.size v L ∧ Below w'.heap.size w' w'') := Lib.hid fun w' hb => by
    have := gcut_any ch 1 m (some ⟨w1.heap.size, 0, none⟩) 3 w1.heap.size (msgS hh s) w' (hs3.below' hb (Nat.le_refl _)) (by show 3 ≤ _; omega) (fun x hx => by
      simp only [msgS, List.mem_cons, List.not_mem_nil, or_false] at hx
      rcases hx with rfl | rfl | rfl
      · show 1 ≤ _; omega
      · show hh.size ≤ _; omega
      · show s.size ≤ _; omega)
    rw [HF.out.cut] at this
    exact this
  rw [HXB.out] at hXB
  have a0 := hXB.c0
  have a1 : W3.cell? ⟨w1.heap.size + 1, 1, none⟩ = some (.int .u8 1) := hXB.c1
  have a2 := hXB.c2
  obtain ⟨q0, q1, q2⟩ := HB3.out.x
  clear HXB
  generalize w1.heap.size = sb1 at *
  have HM := Lib.hid hm
  clear hXB hs3 hsz hm
  go_wp2_with fail
  rw [show (1 : Int) + (sz : Int) % 200 = (m : Int) by have := HM.out; omega]
  refine (HCUT.out _ (Below.refl _ _)).mono ?_
  rintro e wc ⟨vl, rfl, hol, hbc⟩
  obtain ⟨AL, cL, rfl, _, _⟩ := hol.form
  obtain ⟨dL, _, hsl⟩ := hol.shows
  have h3 := HF.out.three
  have h8 := HF.out.many
  obtain ⟨oL, rfl, _, _⟩ := hsl.at_ (by omega)
  have HBC := Lib.hid (HB3.out.step hbc)
  have HSL := Lib.hid (fun w' (hb : Below wc.heap.size wc w') => hsl.below' hb (Nat.le_refl _))
  have t3 : ¬ (L.length : Int) < 3 := by omega
  clear a0 a1 a2 q0 q1 q2 hn1 hn2 hn3 hn4 hn5 hn6 hol hsl hbc HCUT HB3 HB1
  go_upto_region 8 with fail
  go_wp2_with fail
  refine (new_any _).mono ?_
  rintro e wg ⟨gb, F1, rfl, hg1, hb1⟩
  go_wp2_with fail
  refine (new_any _).mono ?_
  rintro e wh ⟨pb, F2, rfl, hp1, hb2⟩
  have HG1 := Lib.hid (And.intro hg1 hb1)
  have HBG := Lib.hid (HBC.out.step hb1)
  have HBH := Lib.hid (HBG.out.step hb2)
  have HP1 := Lib.hid (And.intro hp1 hb2)
  have hgs := hb1.size
  clear hg1 hb1 hp1 hb2
  obtain ⟨q0, q1, q2⟩ := HBH.out.x
  obtain ⟨n1, hn1⟩ : ∃ n1, n1 = L.length - 1 := ⟨_, rfl⟩
  have e1 : (L.length : Int) - 1 = (n1 : Int) := by omega
  have z1 : wrap64 ((L.length : Int) - 1) = (n1 : Int) := by rw [e1]; exact w64_id _ (by omega) (by omega)
  have z2 : IntKind.i64.wrap ((L.length : Int) - 1) = (n1 : Int) := by rw [e1]; exact i64_id _ (by omega) (by omega)
  have HMU := Lib.hid (show mute (some []) (leave n1 0 L) ∧ mute (some []) (leave 0 0 L) from ⟨by rw [hn1]; exact HF.out.last, HF.out.first⟩)
  clear e1 hn1
  have HWR := Lib.hid (fun (a : Nat) (h : a ≤ 8005) => (show wrap64 (a : Int) = (a : Int) ∧ IntKind.i64.wrap (a : Int) = (a : Int) from ⟨w64_id _ (by omega) (by omega), i64_id _ (by omega) (by omega)⟩))
  go_upto_if 77 with fail
  go_cut [14] from 76 to 80 (fun v wx => wx = wh ∧ ∃ out : Nat, v = .int .i64 out ∧ mute (some []) (leave out 0 L))
  case first =>
    cases lst with
    | true =>
      go_wp2_with fail
      go_meet
      case rel => exact ⟨rfl, n1, rfl, HMU.out.1⟩
    | false =>
      go_wp2_with fail
      go_meet
      case rel => exact ⟨rfl, 0, rfl, HMU.out.2⟩
  case rest =>
  obtain ⟨rfl, out, rfl, hmu⟩ := hcut
  rename World => wh
  clear q0 q1 q2 z1 z2 HMU
  have HP0 := Lib.hid (show Pass wg pb (encL (L.take 0)) (leave out 0 (L.drop 0)) (.slice none 0 0) wh from ⟨HP1.out.2, Own.nil_ _ _ _, _, F2, HP1.out.1, fun k _ => by simp [Value.ownBlock], hmu⟩)
  clear hmu HP1
  have HBW := Lib.hid (fun w' (hb : Below wg.heap.size wg w') => (show Below wc.heap.size wc w' from HG1.out.2.trans (hb.mono HG1.out.2.size)))
  have HEL := Lib.hid (fun j => (show (encL (L.take j)).length ≤ 200000 from by
    have h1 := HF.out.enc
    have h2 : encL L = encL (L.take j) ++ encL (L.drop j) := by
      have : ∀ a b : List Fr, encL (a ++ b) = encL a ++ encL b := fun a b => by
        induction a with
        | nil => rfl
        | cons x r ih => show encF x ++ encL (r ++ b) = _; rw [ih]; show _ = (encF x ++ encL r) ++ encL b; rw [List.append_assoc]
      rw [← this, List.take_append_drop]
    rw [h2, List.length_append] at h1
    omega))
  go_wp2_with fail
  go_loopw [15, 16] (fun av iv wr => ∃ j : Nat, j ≤ L.length ∧ iv = .int .i64 j ∧ Hid (Pass wg pb (encL (L.take j)) (leave out j (L.drop j)) av wr)) (fun _ iv _ => L.length - (intOf iv).toNat)
  case atStart => exact ⟨0, Nat.zero_le _, rfl, HP0⟩
  case round =>
    obtain ⟨j, hj, rfl, HP⟩ := hrel
    rename World => wr
    clear HP0
    by_cases hlt : j < L.length
    · have hjl : (j : Int) < (L.length : Int) := by omega
      obtain ⟨hok, hck, hk1, hkc⟩ := HF.out.each _ (List.getElem_mem hlt)
      have HCL := Lib.hid (fun w' (hb : Below wg.heap.size wg w') => by
        obtain ⟨o', e', _, hcl'⟩ := (HSL.out w' (HBW.out w' hb)).at_ (by omega)
        cases e'
        exact fr_cell hcl' hlt)
      have HPUT := Lib.hid (fun w' => fput_ok L[j] w' hok hck)
      have HDR := Lib.hid (show leave out j (L.drop j) = if j = out then leave out (j + 1) (L.drop (j + 1)) else L[j] :: leave out (j + 1) (L.drop (j + 1)) from by
        rw [List.drop_eq_getElem_cons hlt]; rfl)
      have hX : (encF L[j]).length ≤ 4096 := by
        rw [encF_length]
        have := checkF_le hck
        omega
      have hE := HEL.out j
      have HTK := Lib.hid (show encL (L.take (j + 1)) = encL (L.take j) ++ encF L[j] from by
        rw [List.take_succ_eq_append_getElem hlt, encL_snoc])
      have HOK := Lib.hid hok
      obtain ⟨x0, x1, x2, x3, x4, x5, x6, x7⟩ := HCL.out wr HP.out.bel
      generalize L[j] = f at *
      obtain ⟨R1, hR1⟩ : ∃ x, x = leave out (j + 1) (L.drop (j + 1)) := ⟨_, rfl⟩
      rw [← hR1] at HDR
      have HR1 := Lib.hid hR1
      clear hR1
      generalize leave out j (L.drop j) = R0 at *
      obtain ⟨E1, hE1⟩ : ∃ x, x = encL (L.take (j + 1)) := ⟨_, rfl⟩
      rw [← hE1] at HTK
      have HE1 := Lib.hid hE1
      clear hE1
      generalize encL (L.take j) = E0 at *
      generalize encF f = X at *
      obtain ⟨fa, fb, fc, fd, ft, fk, fch, fp⟩ := f
      simp only [Fr.vs] at *
      clear hok hck hk1 hkc
      go_wp2_with fail
      refine (HPUT.out _).mono ?_
      rintro e w2 ⟨vx, rfl, hox, hb2⟩
      obtain ⟨gx, _, hsx⟩ := hox.shows
      have hP2 := HP.out.step hb2
      have ho2 := hP2.all
      have HP2 := Lib.hid hP2
      have hsz2 := hP2.bel.size
      clear x0 x1 x2 x3 x4 x5 x6 x7 hox hb2 hP2
      go_upto_region 20 with (at_builtin; refine wpList_append8W _ rfl (.tmp 97) (.tmp 98) 47 rfl wg.heap.size 5 Tryz.underlying47 info5 _ _ rfl ho2 gx vx X rfl hsx (by omega) (by omega) ?_; intro v3 w3 ho3 hg3 hv3)
      have hP3 := HP2.out.app ho3 hg3 hv3
      rw [← HTK.out] at hP3
      have HP3 := Lib.hid hP3
      clear ho2 hsx ho3 hg3 hv3 hP3
      obtain ⟨j1, hj1⟩ : ∃ j1, j1 = j + 1 := ⟨_, rfl⟩
      by_cases hjo : j = out
      · have eo : ((j : Int) == (out : Int)) = true := by simp; omega
        have hdr := HDR.out
        rw [if_pos hjo] at hdr
        have HP4 := Lib.hid (show Pass wg pb E1 R1 v3 w3 from by rw [← hdr]; exact HP3.out)
        clear hdr hj1
        go_wp2_with fail
        go_roundw
        case rel => exact ⟨j + 1, by omega, by go_num, by rw [← HE1.out, ← HR1.out]; exact HP4⟩
        case measure => simp [intOf]; omega
      · have eo : ((j : Int) == (out : Int)) = false := by simp; omega
        have hdr := HDR.out
        rw [if_neg hjo] at hdr
        have HP4 := Lib.hid (show Pass wg pb E1 (⟨fa, fb, fc, fd, ft, fk, fch, fp⟩ :: R1) v3 w3 from by rw [← hdr]; exact HP3.out)
        obtain ⟨x0, x1, x2, x3, x4, x5, x6, x7⟩ := HCL.out w3 HP3.out.bel
        have HFD := HP4.out.feed HOK.out
        simp only [Fr.vs] at HFD
        have HFD := Lib.hid HFD
        clear hdr hj1 HP3
        go_wp2_with fail
        refine HFD.out.mono ?_
        rintro e w5 ⟨rc, rk, re, B, n, c5, rfl, hP5⟩
        have hbx := below_boxV w5 (Obj.cells #[.int .u16 rc, .int .u8 rk, .slice B n c5] 41)
        have HP6 := Lib.hid (hP5.step hbx)
        clear x0 x1 x2 x3 x4 x5 x6 x7 hP5 hbx
        go_wp2_with fail
        go_roundw
        case rel => exact ⟨j + 1, by omega, by go_num, by rw [← HE1.out, ← HR1.out]; exact HP6⟩
        case measure => simp [intOf]; omega
    · have hjl : ¬ (j : Int) < (L.length : Int) := by omega
      obtain rfl : j = L.length := by omega
      have hP := HP.out
      rw [List.take_length] at hP
      have HBX := Lib.hid (HBW.out _ hP.bel)
      obtain ⟨dA, _, hsA⟩ := hP.all.shows
      obtain ⟨AA, cA, rfl, _, _⟩ := hP.all.form
      have hen := HF.out.enc
      have hsc := msg_scan HF.out
      have HSC := scan_any AA cA dA (encL L) wr hsA (by omega)
      unfold ScanSaid at HSC
      rw [hsc.1, hsc.2] at HSC
      have HSC := Lib.hid HSC
      have HGR := Lib.hid (HG1.out.1.keep fun k hk => hP.bel.block k (HG1.out.1.foot k hk).2)
      have hbw := hP.bel.size
      have HFT := Lib.hid (fun k (hk : F1 k) => (show k < wr.heap.size from Nat.lt_of_lt_of_le (HG1.out.1.foot k hk).2 hbw))
      have HBR := Lib.hid (HBC.out.step HBX.out)
      clear hsA hsc hP HP
      go_wp2_with fail
      refine HSC.out.mono ?_
      rintro e wS ⟨vb, rfl, hob, hbS⟩
      obtain ⟨AB, cB, rfl, _, _⟩ := hob.form
      obtain ⟨dB, hdB, hsB⟩ := hob.shows
      have hdB := hdB (by omega)
      have HBS := Lib.hid (HBR.out.step hbS)
      have HGA := Lib.hid (show Gath wc gb dB AB cB ch L (msgS hh s) 0 wS from
        ⟨HBX.out.trans (hbS.mono HBX.out.size), hsB, none, F1, HGR.out.keep fun k hk => hbS.block k (HFT.out k hk), fun hd => by have := HFT.out _ hd; omega, fun _ => by simpa using HF.out.run⟩)
      obtain ⟨oB, rfl, _, _⟩ := hsB.at_ (by omega)
      have HK := Lib.hid (fun w' (hb : Below wc.heap.size wc w') => HBC.out.step hb)
      clear hsB hob hbS HSC HGR HFT HBR HBX hdB hbw
      go_wp2_with fail
      go_loopw [24] (fun iv wr => ∃ i : Nat, i ≤ L.length ∧ iv = .int .i64 i ∧ Hid (Gath wc gb dB (some ⟨dB, oB, none⟩) cB ch L (msgS hh s) i wr)) (fun iv _ => L.length - (intOf iv).toNat)
      case atStart => exact ⟨0, Nat.zero_le _, rfl, HGA⟩
      case round =>
        obtain ⟨i, hi, rfl, HQ⟩ := hrel
        rename World => V
        clear HGA
        by_cases hil : i < L.length
        · have hii : (i : Int) < (L.length : Int) := by omega
          obtain ⟨hok, hck, hk1, hkc⟩ := HF.out.each _ (List.getElem_mem hil)
          obtain ⟨o', e', _, hcl⟩ := HQ.out.row.at_ (by omega)
          cases e'
          obtain ⟨x0, x1, x2, x3, x4, x5, x6, x7⟩ := fr_cell hcl hil
          have HFD := Lib.hid (HQ.out.feed hil ⟨hok, hk1, hkc⟩)
          clear hok hck hk1 hkc hcl
          generalize L[i] = f at *
          obtain ⟨fa, fb, fc, fd, ft, fk, fch, fp⟩ := f
          simp only [Fr.vs] at *
          obtain ⟨i1, hi1⟩ : ∃ i1, i1 = i + 1 := ⟨_, rfl⟩
          have e3 : (i : Int) + 1 = (i1 : Int) := by omega
          have hw1 := HWR.out i1 (by rw [hi1]; exact Nat.succ_le_succ (Nat.le_trans hi h8))
          have z1 : wrap64 ((i : Int) + 1) = (i1 : Int) := by rw [e3]; exact hw1.1
          have z2 : IntKind.i64.wrap ((i : Int) + 1) = (i1 : Int) := by rw [e3]; exact hw1.2
          clear hw1
          have HI1 := Lib.hid hi1
          rw [← hi1] at HFD
          clear e3 hi1
          go_wp2_with fail
          refine HFD.out.mono ?_
          rintro e V2 ⟨rc, rk, B, n, T, rfl, ho2, hla, hG2⟩
          have hbx := below_boxV V2 (Obj.cells #[.int .u16 rc, .int .u8 rk, .slice B T.length n] 41)
          have hX3 := BoxA.new V2 rc rk (.slice B T.length n)
          have hG3 := hG2.step hbx
          obtain ⟨dT, _, hsT⟩ := (ho2.below hbx (Nat.le_refl _)).shows
          obtain ⟨V3, hV3⟩ : ∃ V3, V3 = V2.alloc (Obj.cells #[.int .u16 rc, .int .u8 rk, .slice B T.length n] 41) := ⟨_, rfl⟩
          rw [← hV3] at hX3 hG3 hsT
          have HG3 := Lib.hid hG3
          clear x0 x1 x2 x3 x4 x5 x6 x7 ho2 hG2 hbx HFD HQ hG3
          go_upto_region 31 with fail
          rw [← hV3]
          clear hV3
          by_cases hq : i1 = L.length
          · obtain ⟨rfl, rfl⟩ := hla hq
            have eq1 : decide (i1 = L.length) = true := by simp [hq]
            have eq2 : ((i1 : Int) == (L.length : Int)) = true := by simp [hq]
            rw [eq1]
            have b2 : V3.cell? ⟨V2.heap.size, 2, none⟩ = some (.slice B 3 n) := hX3.c2
            have b0 := hX3.c0
            have hsT : ShowsG sgC V3 dT (.slice B 3 n) (msgS hh s) := hsT
            obtain ⟨oT, rfl, _, hct⟩ := hsT.at_ (by simp [msgS])
            have s1 : V3.cell? ⟨dT, oT + 3, none⟩ = some (.string hh) := hct 1 (by simp [msgS]) 1 (by decide)
            have s2 : V3.cell? ⟨dT, oT + 5, none⟩ = some (.string s) := hct 2 (by simp [msgS]) 1 (by decide)
            have HX3 := Lib.hid hX3
            have HST := Lib.hid hsT
            clear hla hX3 hct hsT
            go_wp2_with fail
            refine (HGa.out _).mono ?_
            rintro e V4 ⟨hb4, c0, c1, c2, c3, c4, rfl, hs4⟩
            obtain ⟨y0, y1, y2, y3, y4, y5, y6, y7, y8, hvs⟩ := hs4.app.cells5
            simp only [List.cons.injEq, and_true] at hvs
            obtain ⟨rfl, rfl, rfl, rfl, rfl⟩ := hvs
            have hA := below_boxV V4 (Obj.cells #[.string pk, .bool pd, .bool pr, .string pi, .int .u8 y0, .int .u64 y1, .string y2, .slice y3 y4 y5, .slice y6 y7 y8] 29)
            have hY := heap_alloc_new V4 (Obj.cells #[.string pk, .bool pd, .bool pr, .string pi, .int .u8 y0, .int .u64 y1, .string y2, .slice y3 y4 y5, .slice y6 y7 y8] 29)
            have hs5 := (hs4.sub (low_out _ _)).kept hA (Nat.le_refl _)
            have hG5 := (HG3.out.step hb4).step hA
            have hX5 := (HX3.out.kept hb4 (Nat.le_refl _)).kept hA (Nat.le_refl _)
            have hT5 := (HST.out.below' hb4 (Nat.le_refl _)).below' hA (Nat.le_refl _)
            obtain ⟨V5, hV5⟩ : ∃ V5, V5 = V4.alloc (Obj.cells #[.string pk, .bool pd, .bool pr, .string pi, .int .u8 y0, .int .u64 y1, .string y2, .slice y3 y4 y5, .slice y6 y7 y8] 29) := ⟨_, rfl⟩
            rw [← hV5] at hY hs5 hG5 hX5 hT5
            have hK5 := HK.out _ hG5.bel
            have HS5 := Lib.hid (HSa.out _ hK5.bel _ _ _ _ _ hs5)
            have HG5 := Lib.hid hG5
            have HT5 := Lib.hid hT5
            have HX5 := Lib.hid hX5
            have HK5 := Lib.hid hK5
            clear s1 s2 b0 b2 hb4 hA hs4 hs5 hG5 hX5 hT5 HX3 HST HG3 hK5
            go_upto_region 37 with fail
            rw [← hV5]
            clear hV5
            obtain ⟨⟨p0, p1, p2, p3⟩, p4, p5, p6, p7, p8⟩ := HK5.out.a.cells
            simp only [] at p0 p1 p2 p3
            have hYb : BoxPr V5 V4.heap.size ⟨pk, pd, pr, pi, pa⟩ (.int .u8 y0) (.int .u64 y1) (.string y2) (.slice y3 y4 y5) (.slice y6 y7 y8) := hY
            obtain ⟨⟨r0, r1, r2, r3⟩, r4, r5, r6, r7, r8⟩ := hYb.cells
            simp only [] at r0 r1 r2 r3
            clear hY hYb
            go_wp2_with fail
            refine HS5.out.mono ?_
            rintro e V6 ⟨rfl, hb6⟩
            have hX6 := HX5.out.kept hb6 (Nat.le_refl _)
            have b2 : V6.cell? ⟨V2.heap.size, 2, none⟩ = some (.slice (some ⟨dT, oT, none⟩) 3 n) := hX6.c2
            have b0 := hX6.c0
            obtain ⟨o6, e6, _, hct⟩ := (HT5.out.below' hb6 (Nat.le_refl _)).at_ (by simp [msgS])
            cases e6
            have s2 : V6.cell? ⟨dT, oT + 5, none⟩ = some (.string s) := hct 2 (by simp [msgS]) 1 (by decide)
            obtain ⟨q0, q1, q2⟩ := (HK5.out.step hb6).x
            have hss : (s.toList == s.toList) = true := by simp
            have HG6 := Lib.hid (HG5.out.step hb6)
            clear p0 p1 p2 p3 p4 p5 p6 p7 p8 r0 r1 r2 r3 r4 r5 r6 r7 r8 hX6 hct hb6
            go_wp2_with fail
            go_roundw
            case rel => exact ⟨i1, by omega, by first | rfl | go_num, HG6⟩
            case measure => simp [intOf]; have := HI1.out; omega
          · have eq1 : decide (i1 = L.length) = false := by simp [hq]
            have eq2 : ((i1 : Int) == (L.length : Int)) = false := by rw [beq_eq_false_iff_ne]; omega
            rw [eq1]
            clear hla hX3 hsT
            go_wp2_with fail
            go_roundw
            case rel => exact ⟨i1, by have := HI1.out; omega, by first | rfl | go_num, HG3⟩
            case measure => simp [intOf]; have := HI1.out; omega
        · have hii : ¬ (i : Int) < (L.length : Int) := by omega
          have HKV := Lib.hid (HK.out _ HQ.out.bel)
          go_wp2_with fail
          refine (HAW.out _ HKV.out.bel).mono ?_
          rintro e w9 ⟨rfl, hb9⟩
          go_wp2_with fail
          go_ret
          exact ⟨rfl, hb9⟩

end Go.Proofs.YtdjahdnaihijjaaGreatDoor
