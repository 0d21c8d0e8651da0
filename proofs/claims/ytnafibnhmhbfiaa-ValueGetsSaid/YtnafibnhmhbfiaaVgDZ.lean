/-
  The document's own read and Get of values: they tell what the program's Get tells.
  Conditions: at most 20000 bytes.
-/
import Derived.Lib.ConvBytes
import Derived.Test.YtnafibnhmhbfiaaVl0Z
import Derived.Test.YtnafibnhmhbfiaaVl8Z
import Derived.Test.YtnafibnhmhbfiaaVgCZ
import Derived.Test.YtnafibnhmhbfiaaValTZ
import Derived.Test.YtnafibnhmhbfiaaValUZ
import Derived.Test.YtnafibnhmhbfiaaValPZ
namespace Go.Proofs.Ytnafibnhmhbfiaa
open Go.RowKit
set_option linter.unusedVariables false
set_option linter.unusedSimpArgs false

theorem readQ_none : ∀ (dl m : Nat), readQ dl m none = none
  | 0, _ => rfl
  | _ + 1, 0 => rfl
  | _ + 1, _ + 1 => rfl
theorem readQ_leaf (dl n : Nat) (s : St) (h : (numS 1 s).1 ≠ 168 ∧ (numS 1 s).1 ≠ 169) : readQ (dl + 1) (n + 1) s = (if (numS 1 s).1 = 8 ∨ (numS 1 s).1 = 2 then finP (.node (numS 1 s).1 (numS 1 (numS 1 s).2).1 ⟨#[]⟩ [] []) n (numS 1 (numS 1 s).2).2 else if (numS 1 s).1 = 49 ∨ (numS 1 s).1 = 50 then finP (.node (numS 1 s).1 (numS 8 (numS 1 s).2).1 ⟨#[]⟩ [] []) n (numS 8 (numS 1 s).2).2 else if (numS 1 s).1 = 149 then finP (.node (numS 1 s).1 0 (str8 (textS 2 4096 (numS 1 s).2).1) [] []) n (textS 2 4096 (numS 1 s).2).2 else if (numS 1 s).1 = 160 then finP (.node (numS 1 s).1 0 (str8 (textS 4 4096 (numS 1 s).2).1) [] []) n (textS 4 4096 (numS 1 s).2).2 else finP (.node (numS 1 s).1 0 ⟨#[]⟩ [] []) n (numS 1 s).2) := by
  have h' : ¬ ((numS 1 s).1 = 168 ∨ (numS 1 s).1 = 169) := fun e => e.elim h.1 h.2
  rw [readQ, if_neg h']
theorem readQ_list (dl n k : Nat) (yk : Bool) (s : St) (h : (numS 1 s).1 = k) (hk : k = 168 ∨ k = 169) (hy : decide (k = 168) = yk) :
    readQ (dl + 1) (n + 1) s = (match itemsP (readQ dl) yk (min (numS 4 (numS 4 (numS 1 s).2).2).1 200) n (numS 4 (numS 4 (numS 1 s).2).2).2 with | none => none | some (ks, l, m', s') => finP (.node k 0 ⟨#[]⟩ ks l) m' s') := by
  rw [readQ, h, if_neg (by omega), if_neg (by omega), if_neg (by omega), if_neg (by omega), if_pos hk, hy]
  cases itemsP (readQ dl) yk (min (numS 4 (numS 4 (numS 1 s).2).2).1 200) n (numS 4 (numS 4 (numS 1 s).2).2).2 with
  | none => rfl
  | some p => rfl

theorem read_any : ∀ (dl m g d : Nat) (s : St) (w : World), dl ≤ 6 → m ≤ 200 → lenS s ≤ 20000 → QS w g d s → d ≤ g →
    Calls Try.prog 52 #[.pointer (some ⟨g, 0, none⟩), .int .i64 ((7 - dl : Nat) : Int), .int .i64 (m : Int)] w (ReadSaid g d w (readQ dl m s))
  | 0, m, g, d, s, w, hdl, hm, hs, hQ, hdg => read_stop 7 m g d s w hQ hs (by omega) (by omega) (.inr (by omega))
  | dl + 1, 0, g, d, s, w, hdl, hm, hs, hQ, hdg => by
    have h := read_stop (7 - (dl + 1)) 0 g d s w hQ hs (by omega) (by omega) (.inl (by omega))
    exact h
  | dl + 1, n + 1, g, d, s, w, hdl, hm, hs, hQ, hdg => by
    have hD : 7 - (dl + 1) ≤ 6 := by omega
    have IH : ∀ (m1 : Nat) (s1 : St) (w1 : World), m1 < 200 → lenS s1 ≤ 20000 → QS w1 g d s1 → Calls Try.prog 52 #[.pointer (some ⟨g, 0, none⟩), .int .i64 (((7 - (dl + 1) : Nat) : Int) + 1), .int .i64 (m1 : Int)] w1 (ReadSaid g d w1 (readQ dl m1 s1)) := fun m1 s1 w1 h1 h2 h3 => by
      have h := read_any dl m1 g d s1 w1 (by omega) (by omega) h2 h3 hdg
      have e : ((7 - dl : Nat) : Int) = ((7 - (dl + 1) : Nat) : Int) + 1 := by omega
      rw [e] at h
      exact h
    by_cases h168 : (numS 1 s).1 = 168
    · rw [readQ_list dl n 168 true s h168 (.inl rfl) rfl]
      exact read_map (readQ dl) (readQ_leaves dl) (readQ_none dl) _ n g d s w hQ hdg hs hD (by omega) h168 IH
    by_cases h169 : (numS 1 s).1 = 169
    · rw [readQ_list dl n 169 false s h169 (.inr rfl) rfl]
      exact read_seq (readQ dl) (readQ_leaves dl) (readQ_none dl) _ n g d s w hQ hdg hs hD (by omega) h169 IH
    rw [readQ_leaf dl n s ⟨h168, h169⟩]
    by_cases h8 : (numS 1 s).1 = 8
    · exact read_leaf8 _ n g d s w hQ hdg hs hD (by omega) h8
    by_cases h2 : (numS 1 s).1 = 2
    · exact read_leaf2 _ n g d s w hQ hdg hs hD (by omega) h2
    by_cases h49 : (numS 1 s).1 = 49
    · exact read_leaf49 _ n g d s w hQ hdg hs hD (by omega) h49
    by_cases h50 : (numS 1 s).1 = 50
    · exact read_leaf50 _ n g d s w hQ hdg hs hD (by omega) h50
    by_cases h149 : (numS 1 s).1 = 149
    · exact read_leaf149 _ n g d s w hQ hdg hs hD (by omega) h149
    by_cases h160 : (numS 1 s).1 = 160
    · exact read_leaf160 _ n g d s w hQ hdg hs hD (by omega) h160
    exact read_leaf0 _ n g d s w hQ hdg hs hD (by omega) ⟨h168, h169⟩ h8 h2 h49 h50 h149 h160

theorem below_put5 {B b : Nat} {w0 w : World} (hb : Below B w0 w) (h : B ≤ b) (a0 a1 a2 a3 a4 : Value) :
    Below B w0 (((((w.setCell ⟨b, 0, none⟩ a0).setCell ⟨b, 1, none⟩ a1).setCell ⟨b, 2, none⟩ a2).setCell ⟨b, 3, none⟩ a3).setCell ⟨b, 4, none⟩ a4) :=
  below_set (below_set (below_set (below_set (below_set hb h _) h _) h _) h _) h _
theorem cmp_front {bt l : List UInt8} (h : bt.length ≤ l.length) : (∃ r, l = bt ++ r) ↔ bt = l.take bt.length :=
  ⟨fun ⟨r, hr⟩ => by rw [hr]; simp, fun h2 => ⟨l.drop bt.length, (List.take_append_drop bt.length l).symm.trans (by rw [← h2])⟩⟩
/-- Cells of an old block are written: what lies above all old blocks is as it was. -/
theorem low_put5 (w : World) (b : Nat) (a0 a1 a2 a3 a4 : Value) {B : Nat} (hB : b < B) :
    Sub (lowm B w) (lowm B (((((w.setCell ⟨b, 0, none⟩ a0).setCell ⟨b, 1, none⟩ a1).setCell ⟨b, 2, none⟩ a2).setCell ⟨b, 3, none⟩ a3).setCell ⟨b, 4, none⟩ a4)) :=
  ((((low_set hB 0 a0).trans (low_set hB 1 a1)).trans (low_set hB 2 a2)).trans (low_set hB 3 a3)).trans (low_set hB 4 a4)
theorem below_grown {w W w' : World} {g : Nat} (hb : Below w.heap.size w W) (hg : W.grownBy w' (some g)) (h : w.heap.size ≤ g) : Below w.heap.size w w' :=
  ⟨hg.os.trans hb.os, hg.tape.trans hb.tape, hg.output.trans hb.output, Nat.le_trans hb.size hg.size, fun k hk => (hg.block k (Nat.lt_of_lt_of_le hk hb.size) (fun e => by have := Option.some.inj e; omega)).trans (hb.block k hk)⟩

set_option maxRecDepth 100000 in
set_option maxHeartbeats 8000000 in
theorem rget_any (v : Value) (d0 : Nat) (l : List UInt8) (w : World) (hv : Shows w d0 v l) (hl : l.length ≤ 20000) :
    Calls Try.prog 21 #[v] w (GetSaid l w (getP l)) := by
  obtain ⟨A, c, rfl, hlc, hcm, _⟩ := id hv
  obtain ⟨R, hR⟩ : ∃ R, R = getP l := ⟨_, rfl⟩
  rw [← hR]
  have HR := Lib.hid hR
  have HG := Lib.hid (refGet l)
  obtain ⟨W0, hW0⟩ : ∃ W0, W0 = w.alloc (Obj.cells #[.int .u8 0, .int .u64 0, .string ⟨#[]⟩, .slice none 0 0, .slice none 0 0] 27) := ⟨_, rfl⟩
  have hb0 : Below w.heap.size w W0 := by rw [hW0]; exact below_boxV _ _
  have hX0 : BoxV W0 w.heap.size (.int .u8 0) (.int .u64 0) (.string ⟨#[]⟩) (.slice none 0 0) (.slice none 0 0) := by rw [hW0]; exact BoxV.new w
  have hs0 := hX0.lt
  have hv0 := hv.keep hb0.size (fun hp => hb0.block _ (hv.lt hp))
  have HO := Lib.hid (qopen_any _ l d0 W0 hv0 (by omega))
  have HVK := Lib.hid (fun w' (hb : Below w.heap.size w w') => hv.keep hb.size (fun hp => hb.block _ (hv.lt hp)))
  have HRD := Lib.hid (fun g d w1 (hQ : QS w1 g d (some l)) (hdg : d ≤ g) => read_any 6 200 g d (some l) w1 (by omega) (by omega) (by show l.length ≤ 20000; exact hl) hQ hdg)
  simp only [show ((7 - 6 : Nat) : Int) = 1 from rfl, show ((200 : Nat) : Int) = 200 from rfl] at HRD
  have HX0 := Lib.hid hX0
  have HB0 := Lib.hid hb0
  clear hR hX0 hb0 hv hv0
  generalize hq : readQ 6 200 (some l) = q at *
  have HQ := Lib.hid hq
  clear hq
  go_enter Try.func21, Try.ntmps21
  go_wp2_with fail
  rw [← hW0]
  have HW0 := Lib.hid hW0
  clear hW0
  refine HO.out.mono ?_
  rintro e w1 ⟨g, d, rfl, hq1, hg1, ⟨hd1, hd2⟩, hb1⟩
  have hB1 : Below w.heap.size w w1 := HB0.out.trans (hb1.mono HB0.out.size)
  have hX1 := HX0.out.kept hb1 (Nat.le_refl _)
  have HRD1 := Lib.hid (HRD.out g d w1 hq1 hd2)
  clear hq1 hb1
  go_wp2_with fail
  unfold ReadSaid at HRD1
  refine HRD1.out.mono ?_
  cases q with
  | none =>
    obtain rfl : R = none := by rw [HR.out]; exact (HG.out).2 (.inl rfl)
    rintro e w2 ⟨hg2, k7, n7, s7, a7, b7, c7, d7, e7, f7, m7, rfl⟩
    have hX2 := (hg2.block _ hX1.lt (fun e => by have := Option.some.inj e; omega)).trans hX1
    have hB2 := below_grown hB1 hg2 (by omega)
    go_upto_region 2 with fail
    obtain ⟨W3, hW3⟩ : ∃ W3, W3 = w2.alloc (Obj.cells #[.int .u8 k7, .int .u64 n7, .string s7, .slice a7 b7 c7, .slice d7 e7 f7] 27) := ⟨_, rfl⟩
    have hb3 : Below w2.heap.size w2 W3 := by rw [hW3]; exact below_boxV _ _
    have hX3 := BoxV.kept hX2 hb3 (Nat.le_refl _)
    have hB3 := hB2.trans (hb3.mono hB2.size)
    rw [← hW3]
    clear hW3 hb3 hX2 hB2 hX1 hB1 hg2
    have x0 := hX3.c0
    have x1 := hX3.c1
    have x2 := hX3.c2
    have x3 := hX3.c3
    have x4 := hX3.c4
    have fz := hX3.fr
    have R5 := Lib.hid (hX3.put5 (.int .u8 0) (.int .u64 0) (.string ⟨#[]⟩) (.slice none 0 0) (.slice none 0 0))
    have HE5 := Lib.hid (below_put5 hB3 (Nat.le_refl _) (.int .u8 0) (.int .u64 0) (.string ⟨#[]⟩) (.slice none 0 0) (.slice none 0 0))
    clear hX3 hB3
    go_wp2_with fail
    refine bodyPost_ret (results_v3 rfl _ _ w.heap.size 27 _ (0, 0) _ rfl R5.out Try.underlying27 rfl (by kernel_rfl)) rfl ?_
    exact ⟨HE5.out, rfl⟩
  | some p =>
    obtain ⟨t, m, s⟩ := p
    rintro e w2 ⟨hg2, vs, rfl, hsh2, hq2⟩
    obtain ⟨xk, xn, xs, xa, xb, xc, xd, xe, xf, rfl⟩ := hsh2.cells5
    have hX2 := (hg2.block _ hX1.lt (fun e => by have := Option.some.inj e; omega)).trans hX1
    have hB2 := below_grown hB1 hg2 (by omega)
    have hsz2 := hg2.size
    have hszb := hB1.size
    go_upto_region 2 with fail
    obtain ⟨W3, hW3⟩ : ∃ W3, W3 = w2.alloc (Obj.cells #[.int .u8 xk, .int .u64 xn, .string xs, .slice xa xb xc, .slice xd xe xf] 27) := ⟨_, rfl⟩
    have hb3 : Below w2.heap.size w2 W3 := by rw [hW3]; exact below_boxV _ _
    have hX3 := BoxV.kept hX2 hb3 (Nat.le_refl _)
    have hB3 := hB2.trans (hb3.mono hB2.size)
    have hV3 : BoxV W3 w2.heap.size (.int .u8 xk) (.int .u64 xn) (.string xs) (.slice xa xb xc) (.slice xd xe xf) := by rw [hW3]; exact BoxV.new w2
    have hsh3 : ShowsT (lowm (w.heap.size + 1) W3) t _ := (hsh2.sub (low_sub hb3.size fun k _ hk => hb3.block k hk)).sub (low_anti hX1.lt)
    rw [← hW3]
    clear hW3 hb3 hX2 hB2 hX1 hB1 hg2 hsh2 hq2
    have HCK := Lib.hid (qcheck_any t _ W3 (hsh3.sub (low_out _ _)))
    have HBY := Lib.hid (fun (hc : checkT t = 0) w' (hb : Below W3.heap.size W3 w') => (show Calls Try.prog 37 #[.agg #[.int .u8 xk, .int .u64 xn, .string xs, .slice xa xb xc, .slice xd xe xf]] w' (EncSaid t w') from qbytes_any _ t _ w' rfl ((hsh3.sub (low_out _ _)).kept hb (Nat.le_refl _)) (check_ok hc).2.2 (check_ok hc).2.1))
    have HSH3 := Lib.hid hsh3
    generalize w2.heap.size = P at *
    have y0 := hV3.c0
    have y1 := hV3.c1
    have y2 := hV3.c2
    have y3 := hV3.c3
    have y4 := hV3.c4
    clear hsh3
    obtain ⟨E, hE⟩ : ∃ E, E = checkT t := ⟨_, rfl⟩
    rw [← hE] at HCK
    go_wp2_with fail
    refine HCK.out.mono ?_
    rintro e w4 ⟨rfl, hb4⟩
    have hX4 := hX3.kept hb4 (Nat.le_refl _)
    have hV4 := hV3.kept hb4 (Nat.le_refl _)
    have hB4 := hB3.trans (hb4.mono hB3.size)
    clear y0 y1 y2 y3 y4
    by_cases hE0 : E = 0
    case neg =>
      obtain rfl : R = none := by rw [HR.out]; exact (HG.out).2 (.inr ⟨t, m, s, rfl, .inl (by rw [← hE]; exact hE0)⟩)
      have tE : ((E : Int) != 0) = true := by simp; omega
      have x0 := hX4.c0
      have x1 := hX4.c1
      have x2 := hX4.c2
      have x3 := hX4.c3
      have x4 := hX4.c4
      have fz := hX4.fr
      have R5 := Lib.hid (hX4.put5 (.int .u8 0) (.int .u64 0) (.string ⟨#[]⟩) (.slice none 0 0) (.slice none 0 0))
      have HE5 := Lib.hid (below_put5 hB4 (Nat.le_refl _) (.int .u8 0) (.int .u64 0) (.string ⟨#[]⟩) (.slice none 0 0) (.slice none 0 0))
      clear hX4 hB4 hV4 hX3 hV3 hB3 hb4 hE
      go_wp2_with fail
      refine bodyPost_ret (results_v3 rfl _ _ w.heap.size 27 _ (0, 0) _ rfl R5.out Try.underlying27 rfl (by kernel_rfl)) rfl ?_
      exact ⟨HE5.out, rfl⟩
    have tE : ((E : Int) != 0) = false := by simp; omega
    have hc0 : checkT t = 0 := by omega
    have HSH4 := Lib.hid (HSH3.out.sub (low_sub hb4.size fun k _ hk => hb4.block k hk))
    have HBY4 := Lib.hid (HBY.out hc0 w4 hb4)
    have y0 := hV4.c0
    have y1 := hV4.c1
    have y2 := hV4.c2
    have y3 := hV4.c3
    have y4 := hV4.c4
    have HBL := Lib.hid (bytes_le hc0)
    have HG1 := Lib.hid (fun hr => (HG.out).1 t m s rfl hc0 hr)
    have HG2 := Lib.hid (fun hr => (HG.out).2 (.inr ⟨t, m, s, rfl, .inr hr⟩))
    clear hb4 hE hE0 hc0 hX3 hV3 hB3
    go_wp2_with fail
    unfold EncSaid at HBY4
    refine HBY4.out.mono ?_
    rintro e w5 ⟨cv, rfl, hcv, hb5⟩
    have hX5 := hX4.kept hb5 (Nat.le_refl _)
    have hV5 := hV4.kept hb5 (Nat.le_refl _)
    have hB5 := hB4.trans (hb5.mono hB4.size)
    have HSH5 := Lib.hid (HSH4.out.sub (low_sub hb5.size fun k _ hk => hb5.block k hk))
    obtain ⟨g5, _, hs5⟩ := hcv.shows
    obtain ⟨A5, c5, rfl, _, _, _⟩ := id hs5
    have hvl := HVK.out w5 hB5
    have hbl := HBL.out
    clear y0 y1 y2 y3 y4 hX4 hV4 hB4 hb5 hcv
    generalize hBT : bytesT t = bt at *
    by_cases hlen : bt.length ≤ l.length
    case neg =>
      obtain rfl : R = none := by rw [HR.out]; exact HG2.out (fun ⟨r, hr⟩ => hlen (by rw [hr]; simp))
      have tL : ((l.length : Int) < (bt.length : Int)) := by omega
      have tl2 : decide (l.length < bt.length) = true := by simpa using hlen
      obtain ⟨W6, hW6⟩ : ∃ W6, W6 = w5.drew := ⟨_, rfl⟩
      have hX6 : BoxV W6 w.heap.size (.int .u8 0) (.int .u64 0) (.string ⟨#[]⟩) (.slice none 0 0) (.slice none 0 0) := by rw [hW6]; exact BoxV.drw hX5
      have hB6 : Below w.heap.size w W6 := by rw [hW6]; exact below_drew1 hB5
      clear hX5 hB5 hV5 hs5 hvl hlen
      go_upto_region 5 with fail
      go_region
      rw [← hW6]
      clear hW6 tL tl2
      have x0 := hX6.c0
      have x1 := hX6.c1
      have x2 := hX6.c2
      have x3 := hX6.c3
      have x4 := hX6.c4
      have fz := hX6.fr
      have R5 := Lib.hid (hX6.put5 (.int .u8 0) (.int .u64 0) (.string ⟨#[]⟩) (.slice none 0 0) (.slice none 0 0))
      have HE5 := Lib.hid (below_put5 hB6 (Nat.le_refl _) (.int .u8 0) (.int .u64 0) (.string ⟨#[]⟩) (.slice none 0 0) (.slice none 0 0))
      clear hX6 hB6
      go_wp2_with fail
      refine bodyPost_ret (results_v3 rfl _ _ w.heap.size 27 _ (0, 0) _ rfl R5.out Try.underlying27 rfl (by kernel_rfl)) rfl ?_
      exact ⟨HE5.out, rfl⟩
    have tl2 : decide (l.length < bt.length) = false := by simpa using hlen
    have tL : ¬ ((l.length : Int) < (bt.length : Int)) := by omega
    have tk0 : (0 : Int) ≤ (bt.length : Int) := by omega
    have tkc : (bt.length : Int) ≤ (c : Int) := by omega
    have hhd := hvl.head2 hlen
    have HCV := Lib.hid (fun w' (h1 : Shows w' g5 (.slice A5 bt.length c5) bt) (h2 : Shows w' d0 (.slice A bt.length c) (l.take bt.length)) => And.intro (run_conv8 (P := Try.prog) w' 46 5 9 Try.underlying46 Try.underlying5 Try.underlying9 g5 _ _ h1) (run_conv8 (P := Try.prog) w' 46 5 9 Try.underlying46 Try.underlying5 Try.underlying9 d0 _ _ h2))
    obtain ⟨W6, hW6⟩ : ∃ W6, W6 = w5.drew := ⟨_, rfl⟩
    have hX6 : BoxV W6 w.heap.size (.int .u8 0) (.int .u64 0) (.string ⟨#[]⟩) (.slice none 0 0) (.slice none 0 0) := by rw [hW6]; exact BoxV.drw hX5
    have hV6 : BoxV W6 P (.int .u8 xk) (.int .u64 xn) (.string xs) (.slice xa xb xc) (.slice xd xe xf) := by rw [hW6]; exact BoxV.drw hV5
    have hB6 : Below w.heap.size w W6 := by rw [hW6]; exact below_drew1 hB5
    have hS6 : ShowsT (lowm (w.heap.size + 1) W6) t [.int .u8 xk, .int .u64 xn, .string xs, .slice xa xb xc, .slice xd xe xf] := by rw [hW6]; exact HSH5.out.sub (low_sub (Nat.le_refl _) fun _ _ _ => rfl)
    have HCC := Lib.hid (HCV.out w5.drew (hs5.keep (Nat.le_refl _) (fun _ => rfl)) (hhd.keep (Nat.le_refl _) (fun _ => rfl)))
    have hEE : ((str8 bt).toList == (str8 (l.take bt.length)).toList) = (bt == l.take bt.length) := by rw [str8_toList, str8_toList]
    obtain ⟨eb, heb⟩ : ∃ eb, eb = (bt == l.take bt.length) := ⟨_, rfl⟩
    rw [← heb] at hEE
    have HEB := Lib.hid heb
    have HFR := Lib.hid (cmp_front hlen)
    clear hX5 hB5 hV5 hs5 hvl hhd heb HCV
    go_upto_region 5 with fail
    go_region_held3 (fun w' => (convert 46 9 (.slice A5 bt.length c5)).run Try.prog w' = .ok (.string (str8 bt)) w' ∧ (convert 46 9 (.slice A bt.length c)).run Try.prog w' = .ok (.string (str8 (l.take bt.length))) w') (exact HCC.out) (fail)
    rw [← hW6]
    clear hW6 tL tl2 tk0 tkc HCC
    cases eb with
    | false =>
      obtain rfl : R = none := by
        rw [HR.out]
        refine HG2.out (fun hr => ?_)
        have h3 := HFR.out.1 hr
        have h4 := HEB.out
        rw [← h3] at h4
        simp at h4
      have x0 := hX6.c0
      have x1 := hX6.c1
      have x2 := hX6.c2
      have x3 := hX6.c3
      have x4 := hX6.c4
      have fz := hX6.fr
      have R5 := Lib.hid (hX6.put5 (.int .u8 0) (.int .u64 0) (.string ⟨#[]⟩) (.slice none 0 0) (.slice none 0 0))
      have HE5 := Lib.hid (below_put5 hB6 (Nat.le_refl _) (.int .u8 0) (.int .u64 0) (.string ⟨#[]⟩) (.slice none 0 0) (.slice none 0 0))
      clear hX6 hB6
      go_wp2_with fail
      refine bodyPost_ret (results_v3 rfl _ _ w.heap.size 27 _ (0, 0) _ rfl R5.out Try.underlying27 rfl (by kernel_rfl)) rfl ?_
      exact ⟨HE5.out, rfl⟩
    | true =>
      have hRs : R = some (t, bt.length) := by
        rw [HR.out, HG1.out (HFR.out.2 (by have h4 := HEB.out; simpa using h4.symm))]
      have x0 := hX6.c0
      have x1 := hX6.c1
      have x2 := hX6.c2
      have x3 := hX6.c3
      have x4 := hX6.c4
      have y0 := hV6.c0
      have y1 := hV6.c1
      have y2 := hV6.c2
      have y3 := hV6.c3
      have y4 := hV6.c4
      have fz := hX6.fr
      have R5 := Lib.hid (hX6.put5 (.int .u8 xk) (.int .u64 xn) (.string xs) (.slice xa xb xc) (.slice xd xe xf))
      have HE5 := Lib.hid (below_put5 hB6 (Nat.le_refl _) (.int .u8 xk) (.int .u64 xn) (.string xs) (.slice xa xb xc) (.slice xd xe xf))
      have HS5 := Lib.hid ((hS6.sub (low_put5 W6 w.heap.size (.int .u8 xk) (.int .u64 xn) (.string xs) (.slice xa xb xc) (.slice xd xe xf) (by omega))).sub (low_anti (Nat.le_succ _)))
      have HRS := Lib.hid hRs
      clear hX6 hB6 hV6 hS6 hRs
      go_wp2_with fail
      refine bodyPost_ret (results_v3 rfl _ _ w.heap.size 27 _ (0, 0) _ rfl R5.out Try.underlying27 rfl (by kernel_rfl)) rfl ?_
      rw [HRS.out]
      exact ⟨HE5.out, _, rfl, HS5.out⟩

end Go.Proofs.Ytnafibnhmhbfiaa
