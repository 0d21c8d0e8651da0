/-
  Texts, together: MeT, MeU, MeV.
  Conditions: none but sizes.
-/
import Derived.Test.YtpbdnfonflmncaaGreatMeR0Z
import Derived.Test.YtpbdnfonflmncaaGreatMeLZ
set_option linter.unusedVariables false
set_option linter.unusedSimpArgs false
namespace Go.Proofs.YtpbdnfonflmncaaGreat
open Go.RowKit
theorem run_num1 (i : Bool) (n : Int) (s : ByteArray) (f : Int) (g h : ByteArray) (qv v0 v1 v2 v3 v4 : Value) (w : World) : Sem.run Tryz.prog (Instr.field 52 (.agg #[.bool i, .int .u64 n, .string s, .int .u32 f, .string g, .string h, qv, v0, v1, v2, v3, v4]) 1) w = .ok (.int .u64 n) w := by
 kernel_rfl
theorem numV_any (b d : Nat) (s : St) (q : Nat) (w : World) (h : RM w b d s) (hl : lenS s ≤ 140737488351232) (hq : num (q : Int) = true) (hq8 : q ≤ 8) :
  Calls Tryz.prog 58 #[.pointer (some ⟨b, 0, none⟩), .int .i64 q] w fun e w' => ∃ V, e = .returned V ∧ (∀ u, Sem.run Tryz.prog (Instr.field 52 V 1) u = .ok (.int .u64 (numS (q : Int) s).1) u) ∧ RM w' b d (numS (q : Int) s).2 ∧ Frm2 b b w w' := by
 refine (mnumber_any b d s q w h (by omega) hq (by omega)).mono ?_
 rintro e w1 ⟨hF1, hR1, A, c, dq, v0, v1, v2, v3, v4, rfl, _⟩
 exact ⟨_, rfl, fun u => run_num1 _ _ _ _ _ _ _ _ _ _ _ _ u, hR1, hF1⟩
set_option maxRecDepth 100000 in
theorem sync_any (b d : Nat) (s : St) (w : World) (h : RM w b d s) (hl : lenS s ≤ 140737488351232) :
  Calls Tryz.prog 28 #[.pointer (some ⟨b, 0, none⟩)] w fun e w' => e = .returned (.bool (decide ((numS 1 (numS 1 s).2).1 = 1))) ∧ RM w' b d (if (numS 1 s).1 = 1 ∧ (numS 1 (numS 1 s).2).1 ≤ 1 then (numS 1 (numS 1 s).2).2 else none) ∧ Frm2 b b w w' := by
 have HN1 := Lib.hid (numV_any b d s 1 w h (by omega) (by decide) (by omega))
 have hl2 := numS_lenS 1 s
 have HN2 := Lib.hid (fun w' (h' : RM w' b d (numS 1 s).2) => numV_any b d (numS 1 s).2 1 w' h' (by omega) (by decide) (by omega))
 simp only [Int.cast_ofNat_Int] at HN1 HN2
 generalize (numS 1 (numS 1 s).2).2 = s2 at *
 generalize (numS 1 (numS 1 s).2).1 = n2 at *
 generalize (numS 1 s).2 = s1 at *
 generalize (numS 1 s).1 = n1 at *
 clear hl hl2 h
 obtain ⟨B, hB⟩ : ∃ B : Bool, B = decide (n2 = 1) := ⟨_, rfl⟩
 have tB : ((n2 : Int) == 1) = B := by rw [hB, Bool.eq_iff_iff]; simp only [beq_iff_eq, decide_eq_true_eq]; omega
 rw [← hB]
 clear hB
 by_cases h1 : n1 = 1
 ·have t1 : ((n1 : Int) == 1) = true := by rw [h1]; rfl
  by_cases h2 : n2 ≤ 1
  ·have t2 : decide ((n2 : Int) ≤ 1) = true := by rw [decide_eq_true_eq]; omega
   rw [if_pos ⟨h1, h2⟩]
   clear h1 h2
   go_enter Tryz.func28, Tryz.ntmps28
   go_wp2_with fail
   refine HN1.out.mono ?_
   rintro e w1 ⟨V1, rfl, hV1, hR1, hF1⟩
   go_wp2_with fail
   refine (HN2.out w1 hR1).mono ?_
   rintro e w2 ⟨V2, rfl, hV2, hR2, hF2⟩
   have HM := Lib.hid (must_yes' b d s2 w2 hR2)
   go_wp2_with fail
   with_reducible refine HM.out.mono ?_
   rintro e w3 ⟨rfl, rfl⟩
   go_wp2_with fail
   go_ret
   exact ⟨rfl, hR2, hF1.trans hF2⟩
  ·have t2 : decide ((n2 : Int) ≤ 1) = false := by rw [decide_eq_false_iff_not]; omega
   rw [if_neg (fun h => h2 h.2)]
   clear h1 h2
   go_enter Tryz.func28, Tryz.ntmps28
   go_wp2_with fail
   refine HN1.out.mono ?_
   rintro e w1 ⟨V1, rfl, hV1, hR1, hF1⟩
   go_wp2_with fail
   refine (HN2.out w1 hR1).mono ?_
   rintro e w2 ⟨V2, rfl, hV2, hR2, hF2⟩
   have HM := Lib.hid (must_no' b d s2 w2 hR2)
   go_wp2_with fail
   with_reducible refine HM.out.mono ?_
   rintro e w3 ⟨rfl, hR3, hF3⟩
   go_wp2_with fail
   go_ret
   exact ⟨rfl, hR3, (hF1.trans hF2).trans hF3⟩
 ·have t1 : ((n1 : Int) == 1) = false := by rw [beq_eq_false_iff_ne]; omega
  rw [if_neg (fun h => h1 h.1)]
  clear h1
  go_enter Tryz.func28, Tryz.ntmps28
  go_wp2_with fail
  refine HN1.out.mono ?_
  rintro e w1 ⟨V1, rfl, hV1, hR1, hF1⟩
  go_wp2_with fail
  refine (HN2.out w1 hR1).mono ?_
  rintro e w2 ⟨V2, rfl, hV2, hR2, hF2⟩
  have HM := Lib.hid (must_no' b d s2 w2 hR2)
  go_wp2_with fail
  with_reducible refine HM.out.mono ?_
  rintro e w3 ⟨rfl, hR3, hF3⟩
  go_wp2_with fail
  go_ret
  exact ⟨rfl, hR3, (hF1.trans hF2).trans hF3⟩
noncomputable def argsS (ks : List UInt8) (s : St) : List ArgP × St :=
  ((argsR ks (numS 2 s).1 (numS 2 s).2).1, if (argsR ks (numS 2 s).1 (numS 2 s).2).2.1 = 0 then (argsR ks (numS 2 s).1 (numS 2 s).2).2.2 else none)
def ArgsSaid (b d : Nat) (ks : List UInt8) (s : St) (w : World) (e : Ending) (w' : World) : Prop :=
  ∃ A c, e = .returned (.slice A (argsS ks s).1.length c) ∧ ListA (lowm w.heap.size w') (argsS ks s).1 A c ∧ RM w' b d (argsS ks s).2 ∧ Frm2 b b w w'
theorem ListA.sub {w w' : World} {l : List ArgP} {A : Option Addr} {c : Nat} (h : ListA w l A c) (hs : Sub w w') : ListA w' l A c :=
 ⟨h.lm, h.lc, h.cm, fun j hj => by
  obtain ⟨d, o, C, e, dq, v0, v1, v2, v3, v4, rfl, hd, hsh, ⟨e0, e1, e2⟩, ⟨e3, e4, e5⟩, e6, e7, e8, e9, e10, e11⟩ := h.at_ j hj
  exact ⟨d, o, C, e, dq, v0, v1, v2, v3, v4, rfl, Nat.lt_of_lt_of_le hd hs.1, hsh.sub hs, ⟨hs.2 _ _ _ e0, hs.2 _ _ _ e1, hs.2 _ _ _ e2⟩, ⟨hs.2 _ _ _ e3, hs.2 _ _ _ e4, hs.2 _ _ _ e5⟩, hs.2 _ _ _ e6, hs.2 _ _ _ e7, hs.2 _ _ _ e8, hs.2 _ _ _ e9, hs.2 _ _ _ e10, hs.2 _ _ _ e11⟩⟩
set_option maxRecDepth 100000 in
theorem args_nil (b d : Nat) (s : St) (w : World) (h : RM w b d s) (hl : lenS s ≤ 140737488351232) :
  Calls Tryz.prog 29 #[.pointer (some ⟨b, 0, none⟩), .string ⟨#[]⟩] w (ArgsSaid b d [] s w) := by
 have HD := Lib.hid (decoders_any w)
 have HN := Lib.hid (fun w' (hb : Below w.heap.size w w') => numV_any b d s 2 w' (h.below hb) hl (by decide) (by omega))
 unfold ArgsSaid argsS argsR
 simp only [Int.cast_ofNat_Int] at HN ⊢
 generalize (numS 2 s).2 = s1 at *
 generalize (numS 2 s).1 = n1 at *
 have hz : (⟨#[]⟩ : ByteArray).size = 0 := rfl
 have hfin : ∀ w', Frm2 b b w w' → ListA (lowm w.heap.size w') [] none 0 := fun w' _ => ListA.nil _
 have HFI := Lib.hid hfin
 clear hl h hfin
 by_cases h1 : n1 = 0
 ·have t1 : ((n1 : Int) == 0) = true := by rw [h1]; rfl
  rw [if_pos h1]
  clear h1
  go_enter Tryz.func29, Tryz.ntmps29
  go_wp2_with fail
  with_reducible refine HD.out.mono ?_
  rintro e w1 ⟨p, rfl, _, _, hb1⟩
  go_wp2_with fail
  with_reducible refine (HN.out w1 hb1).mono ?_
  rintro e w2 ⟨V, rfl, hV, hR2, hF2⟩
  go_upto_region 4 with fail
  go_wp2_with fail
  go_loopw [5, 7, 16] (fun a f i wr => wr = w2 ∧ i = .int .i64 0 ∧ a = .slice none 0 0 ∧ f = .int .u64 n1) (fun _ _ i _ => 0)
  case atStart => exact ⟨rfl, rfl, rfl, rfl⟩
  case round =>
   obtain ⟨rfl, rfl, rfl, rfl⟩ := hrel
   have HM := Lib.hid (must_yes' b d s1 _ hR2)
   go_wp2_with fail
   with_reducible refine HM.out.mono ?_
   rintro e w3 ⟨rfl, rfl⟩
   go_wp2_with fail
   go_ret
   exact ⟨none, 0, rfl, HFI.out _ ((Frm2.of_below hb1).trans hF2), hR2, (Frm2.of_below hb1).trans hF2⟩
 ·have t1 : ((n1 : Int) == 0) = false := by rw [beq_eq_false_iff_ne]; omega
  rw [if_neg h1]
  clear h1
  go_enter Tryz.func29, Tryz.ntmps29
  go_wp2_with fail
  with_reducible refine HD.out.mono ?_
  rintro e w1 ⟨p, rfl, _, _, hb1⟩
  go_wp2_with fail
  with_reducible refine (HN.out w1 hb1).mono ?_
  rintro e w2 ⟨V, rfl, hV, hR2, hF2⟩
  go_upto_region 4 with fail
  go_wp2_with fail
  go_loopw [5, 7, 16] (fun a f i wr => wr = w2 ∧ i = .int .i64 0 ∧ a = .slice none 0 0 ∧ f = .int .u64 n1) (fun _ _ i _ => 0)
  case atStart => exact ⟨rfl, rfl, rfl, rfl⟩
  case round =>
   obtain ⟨rfl, rfl, rfl, rfl⟩ := hrel
   have HM := Lib.hid (must_no' b d s1 _ hR2)
   go_wp2_with fail
   with_reducible refine HM.out.mono ?_
   rintro e w3 ⟨rfl, hR3, hF3⟩
   go_wp2_with fail
   go_ret
   exact ⟨none, 0, rfl, HFI.out _ (((Frm2.of_below hb1).trans hF2).trans hF3), hR3, ((Frm2.of_below hb1).trans hF2).trans hF3⟩
def zeroMV : Value := .agg #[.int .u8 0, .int .u8 0, .bool false, .slice none 0 0]
def MGetSaid (o : Option MethP) (er : Nat) (w : World) (e : Ending) (w' : World) : Prop :=
  Below w.heap.size w w' ∧ ((o = none ∧ e = .returned (.tuple #[zeroMV, .int .i64 er])) ∨ ∃ m A c, o = some m ∧ e = .returned (.tuple #[methV m (.slice A m.args.length c), .int .i64 0]) ∧ ListA w' m.args A c)
noncomputable def mOf (x y : UInt8) (r : List UInt8) (ks : List UInt8) : MethP := ⟨x.toNat, y.toNat, (syncS x.toNat (some r)).1, (argsS ks (syncS x.toNat (some r)).2).1⟩
theorem getM_few {b : List UInt8} (h : b.length < 2) : m_getM b = none ∧ errM b = 4 := by
 unfold m_getM errM
 rw [if_pos h, if_pos h]
 exact ⟨rfl, rfl⟩
theorem m_getM_none {x y : UInt8} {r : List UInt8} (h : m_findD x.toNat y.toNat = none) : m_getM (x :: y :: r) = none ∧ errM (x :: y :: r) = 80 := by
 unfold m_getM errM
 rw [if_neg (by simp), if_neg (by simp)]
 simp only [List.getD_cons_zero, List.getD_cons_succ, kinds_none h]
 exact ⟨trivial, rfl⟩
theorem getM_err {x y : UInt8} {r : List UInt8} {s : Shape} (h : m_findD x.toNat y.toNat = some s) : errM (x :: y :: r) = 5 := by
 unfold errM
 rw [if_neg (by simp)]
 simp only [List.getD_cons_zero, List.getD_cons_succ, kinds_of h]
 rfl
theorem getM_some {x y : UInt8} {r : List UInt8} {s : Shape} (h : m_findD x.toNat y.toNat = some s) (h1 : (argsS (sb s.kinds) (syncS x.toNat (some r)).2).2 = some []) (h2 : validM (mOf x y r (sb s.kinds))) : m_getM (x :: y :: r) = some (mOf x y r (sb s.kinds)) := by
 unfold argsS at h1
 simp only at h1
 split at h1
 ·rename_i h3
  unfold m_getM
  rw [if_neg (by simp)]
  simp only [List.getD_cons_zero, List.getD_cons_succ, kinds_of h]
  exact if_pos ⟨h3, h1, h2⟩
 ·cases h1
theorem getM_no {x y : UInt8} {r : List UInt8} {s : Shape} (h : m_findD x.toNat y.toNat = some s) (h1 : ¬ ((argsS (sb s.kinds) (syncS x.toNat (some r)).2).2 = some [] ∧ validM (mOf x y r (sb s.kinds)))) : m_getM (x :: y :: r) = none := by
 unfold m_getM
 rw [if_neg (by simp)]
 simp only [List.getD_cons_zero, List.getD_cons_succ, kinds_of h]
 refine if_neg ?_
 rintro ⟨h2, h3, h4⟩
 refine h1 ⟨?_, h4⟩
 unfold argsS
 exact (if_pos h2).trans h3
def set4 (w : World) (p : Nat) (a b c v : Value) : World := (((w.setCell ⟨p, 0, none⟩ a).setCell ⟨p, 1, none⟩ b).setCell ⟨p, 2, none⟩ c).setCell ⟨p, 3, none⟩ v
theorem set4_row {w : World} {p : Nat} {a b c v a' b' c' v' : Value} (h : w.heap[p]? = some (.cells #[a', b', c', v'] 24 (0, 0))) : (set4 w p a b c v).heap[p]? = some (.cells #[a, b, c, v] 24 (0, 0)) :=
 heap_setCell_same _ p 3 _ 24 _ (heap_setCell_same _ p 2 _ 24 _ (heap_setCell_same _ p 1 _ 24 _ (heap_setCell_same w p 0 _ 24 _ h)))
theorem set4_below {B p : Nat} {w0 w : World} {a b c v : Value} (h : Below B w0 w) (hp : B ≤ p) : Below B w0 (set4 w p a b c v) := (((h.setCell hp _).setCell hp _).setCell hp _).setCell hp _
theorem set4_sub {B p : Nat} {w : World} {a b c v : Value} (hp : p < B) : Sub (lowm B w) (lowm B (set4 w p a b c v)) := (((low_set hp 0 _).trans (low_set hp 1 _)).trans (low_set hp 2 _)).trans (low_set hp 3 _)
set_option maxRecDepth 100000 in
theorem mget_few (v : Value) (l : List UInt8) (d : Nat) (w : World) (h : Shows w d v l) (hl : l.length < 2) : Calls Tryz.prog 12 #[v] w (MGetSaid (m_getM l) (errM l) w) := by
 rw [(getM_few hl).1, (getM_few hl).2]
 obtain ⟨A, c, rfl, hlc, hcm, _⟩ := h
 have t1 : decide ((l.length : Int) < 2) = true := by rw [decide_eq_true_eq]; omega
 have hr := BoxM.new w 0 0 false (.slice none 0 0)
 have hb := below_box w (Obj.cells #[.int .u8 0, .int .u8 0, .bool false, .slice none 0 0] 24)
 clear hl hlc hcm
 generalize hW : w.alloc (Obj.cells #[.int .u8 0, .int .u8 0, .bool false, .slice none 0 0] 24) = W at *
 have f0 := hr.fr 0
 have f1 := hr.fr 1
 have f2 := hr.fr 2
 have f3 := hr.fr 3
 have c0 := hr.c0
 have c1 := hr.c1
 have c2 := hr.c2
 have c3 := hr.c3
 have HW := Lib.hid hW
 have HR := Lib.hid (And.intro hr hb)
 clear hW hr hb
 go_enter Tryz.func12, Tryz.ntmps12
 go_upto_region 1 with fail
 rw [HW.out]
 go_wp2_with fail
 refine bodyPost_ret (results_row_tmp rfl _ _ w.heap.size 24 _ (0, 0) _ rfl (set4_row HR.out.1) Tryz.underlying24 rfl (by kernel_rfl)) rfl ?_
 exact ⟨set4_below HR.out.2 (Nat.le_refl _), .inl ⟨rfl, rfl⟩⟩
set_option maxRecDepth 100000 in
theorem mget_none (x y : UInt8) (r : List UInt8) (v : Value) (d : Nat) (w : World) (h : Shows w d v (x :: y :: r)) (hs : m_findD x.toNat y.toNat = none) : Calls Tryz.prog 12 #[v] w (MGetSaid (m_getM (x :: y :: r)) (errM (x :: y :: r)) w) := by
 rw [(m_getM_none hs).1, (m_getM_none hs).2]
 have hK := fun w => kinds_any x.toNat y.toNat w
 rw [hs] at hK
 simp only [Option.isSome, Option.getD] at hK
 have HK := Lib.hid hK
 clear hs hK
 obtain ⟨A, c, rfl, hlc, hcm, hat⟩ := h
 obtain ⟨o, rfl, hd, hat⟩ := hat (by simp)
 have e0 : w.cell? ⟨d, o, none⟩ = some (.int .u8 x.toNat) := hat 0 (by simp)
 have e1 : w.cell? ⟨d, o + 1, none⟩ = some (.int .u8 y.toNat) := hat 1 (by simp)
 have hl2 : (x :: y :: r).length = r.length + 2 := by simp
 have t1 : decide ((r.length : Int) + 2 < 2) = false := by rw [decide_eq_false_iff_not]; omega
 have t2 : (1 : Int) < (r.length : Int) + 2 := by omega
 have t3 : (0 : Int) < (r.length : Int) + 2 := by omega
 rw [hl2]
 have hr := BoxM.new w 0 0 false (.slice none 0 0)
 have hb := below_box w (Obj.cells #[.int .u8 0, .int .u8 0, .bool false, .slice none 0 0] 24)
 have e0' := (hb.cell (p := ⟨d, o, none⟩) hd).trans e0
 have e1' := (hb.cell (p := ⟨d, o + 1, none⟩) hd).trans e1
 clear hlc hcm e0 e1 hat
 generalize x.toNat = cl at *
 generalize y.toNat = co at *
 generalize hW : w.alloc (Obj.cells #[.int .u8 0, .int .u8 0, .bool false, .slice none 0 0] 24) = W at *
 have hx := BoxM.new W 0 0 false (.slice none 0 0)
 have hbx := below_box W (Obj.cells #[.int .u8 0, .int .u8 0, .bool false, .slice none 0 0] 24)
 have hdW : d < W.heap.size := Nat.lt_of_lt_of_le hd hb.size
 have g0 := (hbx.cell (p := ⟨d, o, none⟩) hdW).trans e0'
 have g1 := (hbx.cell (p := ⟨d, o + 1, none⟩) hdW).trans e1'
 have f0 := hx.fr 0
 have f1 := hx.fr 1
 have f2 := hx.fr 2
 have f3 := hx.fr 3
 have c0 := hx.c0
 have c1 := hx.c1
 have c2 := hx.c2
 have c3 := hx.c3
 have hrs : w.heap.size < W.heap.size := hr.lt
 have HW := Lib.hid hW
 have HR := Lib.hid (And.intro (show BoxM W w.heap.size 0 0 false (.slice none 0 0) from hr) hb)
 clear hW hr hb hx hbx
 go_enter Tryz.func12, Tryz.ntmps12
 go_upto_region 1 with fail
 rw [HW.out]
 go_upto_region 3 with fail
 go_region
 go_upto_region 4 with fail
 have hm4 : BoxM (W.alloc (Obj.cells #[.int .u8 cl, .int .u8 co, .bool false, .slice none 0 0] 24)).drew W.heap.size cl co false (.slice none 0 0) := BoxM.new W cl co false (.slice none 0 0)
 have hbW4 : Below W.heap.size W (W.alloc (Obj.cells #[.int .u8 cl, .int .u8 co, .bool false, .slice none 0 0] 24)).drew := below_drew1 (below_box W _)
 clear g0 g1 f0 f1 f2 f3 c0 c1 c2 c3 HW e0' e1' t1 t2 t3
 generalize (W.alloc (Obj.cells #[.int .u8 cl, .int .u8 co, .bool false, .slice none 0 0] 24)).drew = W4 at *
 have hr4 : BoxM W4 w.heap.size 0 0 false (.slice none 0 0) := HR.out.1.kept hbW4 (Nat.le_refl _)
 have hb4 : Below w.heap.size w W4 := HR.out.2.trans (hbW4.mono HR.out.2.size)
 clear hbW4 HR
 have c0 := hm4.c0
 have c1 := hm4.c1
 go_wp2_with fail
 with_reducible refine (HK.out W4).mono ?_
 rintro e w5 ⟨rfl, hb5⟩
 have hm5 := hm4.kept hb5 (Nat.le_refl _)
 have hr5 := hr4.kept hb5 (Nat.le_refl _)
 have hB5 : Below w.heap.size w w5 := hb4.trans (hb5.mono hb4.size)
 clear hm4 hr4 hb5 hb4 c0 c1
 have c0 := hr5.c0
 have c1 := hr5.c1
 have c2 := hr5.c2
 have c3 := hr5.c3
 have f0 := hr5.fr 0
 have f1 := hr5.fr 1
 have f2 := hr5.fr 2
 have f3 := hr5.fr 3
 have HR5 := Lib.hid (And.intro hr5 hB5)
 clear hr5 hB5 hm5
 go_wp2_with fail
 refine bodyPost_ret (results_row_tmp rfl _ _ w.heap.size 24 _ (0, 0) _ rfl (set4_row HR5.out.1) Tryz.underlying24 rfl (by kernel_rfl)) rfl ?_
 exact ⟨set4_below HR5.out.2 (Nat.le_refl _), .inl ⟨rfl, rfl⟩⟩
set_option maxRecDepth 100000 in
set_option maxHeartbeats 4000000 in
theorem mget_some (x y : UInt8) (r : List UInt8) (v : Value) (d : Nat) (w : World) (s : Shape) (h : Shows w d v (x :: y :: r)) (hs : m_findD x.toNat y.toNat = some s) (hl : r.length ≤ 140737488351232)
  (HA : Hid (∀ b s' w', RM w' b d s' → lenS s' ≤ r.length → Calls Tryz.prog 29 #[.pointer (some ⟨b, 0, none⟩), .string s.kinds] w' (ArgsSaid b d (sb s.kinds) s' w')))
  (hcnt : ∀ a ∈ (mOf x y r (sb s.kinds)).args, cntT a.v ≤ 1000000) : Calls Tryz.prog 12 #[v] w (MGetSaid (m_getM (x :: y :: r)) (errM (x :: y :: r)) w) := by
 obtain ⟨O, hO⟩ : ∃ O, O = m_getM (x :: y :: r) := ⟨_, rfl⟩
 rw [← hO, getM_err hs]
 have hyes := fun h1 h2 => hO.trans (@getM_some x y r s hs h1 h2)
 have hno := fun h1 => hO.trans (@getM_no x y r s hs h1)
 have HCN := Lib.hid hcnt
 clear hO hcnt
 unfold mOf at hyes hno HCN
 simp only at HCN
 have hcl0 := (find_ok hs).1
 have HYN := Lib.hid (And.intro hyes hno)
 have hK := fun w => kinds_any x.toNat y.toNat w
 rw [hs] at hK
 simp only [Option.isSome, Option.getD] at hK
 have HK := Lib.hid hK
 have hCM := fun w => isCmd_any x.toNat w
 have hTL : ∀ A c A', v = .slice A (x :: y :: r).length c → (¬ c = 2 → A' = A.map (fun x => x.add 2)) → Shows w d (.slice A' r.length (c - 2)) r := by
  intro A c A' e hA
  rw [e] at h
  exact h.tail (k := 2) (by simp) A' hA
 have HTL := Lib.hid hTL
 clear hTL
 obtain ⟨sc, sw, sk⟩ := s
 simp only at HK HA HYN HCN
 clear hs hK hyes hno
 obtain ⟨A, c, rfl, hlc, hcm, hat⟩ := h
 obtain ⟨o, rfl, hd, hat⟩ := hat (by simp)
 have e0 : w.cell? ⟨d, o, none⟩ = some (.int .u8 x.toNat) := hat 0 (by simp)
 have e1 : w.cell? ⟨d, o + 1, none⟩ = some (.int .u8 y.toNat) := hat 1 (by simp)
 have hl2 : (x :: y :: r).length = r.length + 2 := by simp
 have t1 : decide ((r.length : Int) + 2 < 2) = false := by rw [decide_eq_false_iff_not]; omega
 have t2 : (1 : Int) < (r.length : Int) + 2 := by omega
 have t3 : (0 : Int) < (r.length : Int) + 2 := by omega
 rw [hl2]
 have hr := BoxM.new w 0 0 false (.slice none 0 0)
 have hb := below_box w (Obj.cells #[.int .u8 0, .int .u8 0, .bool false, .slice none 0 0] 24)
 have e0' := (hb.cell (p := ⟨d, o, none⟩) hd).trans e0
 have e1' := (hb.cell (p := ⟨d, o + 1, none⟩) hd).trans e1
 clear hlc hcm e0 e1 hat
 generalize x.toNat = cl at *
 generalize y.toNat = co at *
 generalize hW : w.alloc (Obj.cells #[.int .u8 0, .int .u8 0, .bool false, .slice none 0 0] 24) = W at *
 have hx := BoxM.new W 0 0 false (.slice none 0 0)
 have hbx := below_box W (Obj.cells #[.int .u8 0, .int .u8 0, .bool false, .slice none 0 0] 24)
 have hdW : d < W.heap.size := Nat.lt_of_lt_of_le hd hb.size
 have g0 := (hbx.cell (p := ⟨d, o, none⟩) hdW).trans e0'
 have g1 := (hbx.cell (p := ⟨d, o + 1, none⟩) hdW).trans e1'
 have f0 := hx.fr 0
 have f1 := hx.fr 1
 have f2 := hx.fr 2
 have f3 := hx.fr 3
 have c0 := hx.c0
 have c1 := hx.c1
 have c2 := hx.c2
 have c3 := hx.c3
 have hrs : w.heap.size < W.heap.size := hr.lt
 have HW := Lib.hid hW
 have HR := Lib.hid (And.intro (show BoxM W w.heap.size 0 0 false (.slice none 0 0) from hr) hb)
 clear hW hr hb hx hbx
 go_enter Tryz.func12, Tryz.ntmps12
 go_upto_region 1 with fail
 rw [HW.out]
 go_upto_region 3 with fail
 go_region
 go_upto_region 4 with fail
 have hm4 : BoxM (W.alloc (Obj.cells #[.int .u8 cl, .int .u8 co, .bool false, .slice none 0 0] 24)).drew W.heap.size cl co false (.slice none 0 0) := BoxM.new W cl co false (.slice none 0 0)
 have hbW4 : Below W.heap.size W (W.alloc (Obj.cells #[.int .u8 cl, .int .u8 co, .bool false, .slice none 0 0] 24)).drew := below_drew1 (below_box W _)
 clear g0 g1 f0 f1 f2 f3 c0 c1 c2 c3 HW e0' e1' t1 t2 t3
 generalize (W.alloc (Obj.cells #[.int .u8 cl, .int .u8 co, .bool false, .slice none 0 0] 24)).drew = W4 at *
 have hr4 : BoxM W4 w.heap.size 0 0 false (.slice none 0 0) := HR.out.1.kept hbW4 (Nat.le_refl _)
 have hb4 : Below w.heap.size w W4 := HR.out.2.trans (hbW4.mono HR.out.2.size)
 clear hbW4 HR
 have c0 := hm4.c0
 have c1 := hm4.c1
 go_wp2_with fail
 with_reducible refine (HK.out W4).mono ?_
 rintro e w5 ⟨rfl, hb5⟩
 have hm5 := hm4.kept hb5 (Nat.le_refl _)
 have hr5 := hr4.kept hb5 (Nat.le_refl _)
 have hB5 : Below w.heap.size w w5 := hb4.trans (hb5.mono hb4.size)
 clear hm4 hr4 hb5 hb4 c0 c1
 have hmb : ∀ A', (¬ c = 2 → A' = (some (⟨d, o, none⟩ : Addr)).map (fun x => x.add 2)) → RM (w5.alloc (Obj.cells #[.slice A' r.length (c - 2), .bool false] 76)) w5.heap.size d (some r) := fun A' hA =>
  ⟨A', c - 2, heap_alloc_new w5 _, ((HTL.out _ _ A' rfl hA).below hB5 hd).keep (below_box w5 _).size (fun _ => (below_box w5 _).block d (Nat.lt_of_lt_of_le hd hB5.size)), fun _ => Nat.lt_of_lt_of_le hd hB5.size⟩
 have HMB := Lib.hid hmb
 clear hmb HTL hat
 go_upto_region 8 with fail
 have hR6 := HMB.out (if c = 2 then some ⟨d, o, none⟩ else some ⟨d, o + 2, none⟩) (fun h => by rw [if_neg h]; rfl)
 have hb6 := below_box w5 (Obj.cells #[.slice (if c = 2 then some ⟨d, o, none⟩ else some ⟨d, o + 2, none⟩) r.length (c - 2), .bool false] 76)
 generalize (if c = 2 then some (⟨d, o, none⟩ : Addr) else some ⟨d, o + 2, none⟩) = A' at *
 generalize w5.alloc (Obj.cells #[.slice A' r.length (c - 2), .bool false] 76) = W6 at *
 have hm6 := hm5.kept hb6 (Nat.le_refl _)
 have hr6 := hr5.kept hb6 (Nat.le_refl _)
 have hB6 : Below w.heap.size w W6 := hB5.trans (hb6.mono hB5.size)
 have hs5 : W.heap.size < w5.heap.size := hm5.lt
 have hs6 := hb6.size
 have hlt6 := hR6.lt
 clear hm5 hr5 hb6 HMB
 have hw : cl ≤ 2 ∨ 2 < cl := by omega
 rcases hw with hcl | hcl
 case' inl =>
  have hcm := fun w => hCM w
  rw [decide_eq_false (by omega)] at hcm
  have HCM := Lib.hid hcm
  have hsy : syncS cl (some r) = (false, some r) := if_neg (by omega)
  rw [hsy] at HYN HCN
  clear hcm hCM hsy
  have c0 := hm6.c0
  go_wp2_with fail
  with_reducible refine (HCM.out _).mono ?_
  rintro e w7 ⟨rfl, rfl⟩
  go_upto_region 10 with fail
  rename World => W8
  clear c0
  have hm8 := hm6
  obtain ⟨sy, hsy⟩ : ∃ sy, sy = false := ⟨_, rfl⟩
  rw [← hsy] at hm8 HYN
  have hRM8 := hR6
  have hlen8 : lenS (some r) ≤ r.length := Nat.le_refl _
  generalize some r = S2 at *
  have hr8 := hr6
  have hB8 := hB6
  have hs8 := hs6
  have hlt8 := hlt6
  clear hm6 hR6 hr6 hB6 hs6 hsy hlt6
 case' inr =>
  have hcm := fun w => hCM w
  rw [decide_eq_true (by omega)] at hcm
  have HCM := Lib.hid hcm
  have HSY := Lib.hid (sync_any w5.heap.size d (some r) W6 hR6 hl)
  have hlen8 : lenS (if (numS 1 (some r)).1 = 1 ∧ (numS 1 (numS 1 (some r)).2).1 ≤ 1 then (numS 1 (numS 1 (some r)).2).2 else none) ≤ r.length := by
   have h1 := numS_lenS 1 (some r)
   have h2 := numS_lenS 1 (numS 1 (some r)).2
   split
   ·have : lenS (some r) = r.length := rfl
    omega
   ·exact Nat.zero_le _
  have hsy : syncS cl (some r) = (decide ((numS 1 (numS 1 (some r)).2).1 = 1), if (numS 1 (some r)).1 = 1 ∧ (numS 1 (numS 1 (some r)).2).1 ≤ 1 then (numS 1 (numS 1 (some r)).2).2 else none) := if_pos hcl
  rw [hsy] at HYN HCN
  generalize (if (numS 1 (some r)).1 = 1 ∧ (numS 1 (numS 1 (some r)).2).1 ≤ 1 then (numS 1 (numS 1 (some r)).2).2 else none) = S2 at *
  generalize decide ((numS 1 (numS 1 (some r)).2).1 = 1) = sy at *
  clear hcm hCM hsy
  have c0 := hm6.c0
  go_wp2_with fail
  with_reducible refine (HCM.out _).mono ?_
  rintro e w7 ⟨rfl, rfl⟩
  go_upto_region 9 with fail
  rename World => W6
  clear c0
  go_wp2_with fail
  with_reducible refine HSY.out.mono ?_
  rintro e w7 ⟨rfl, hR7, hF7⟩
  have hm7 : BoxM w7 W.heap.size cl co false (.slice none 0 0) := (hF7.block _ hm6.lt (by omega) (by omega)).trans hm6
  have hr7 : BoxM w7 w.heap.size 0 0 false (.slice none 0 0) := (hF7.block _ hr6.lt (by omega) (by omega)).trans hr6
  have hB7 : Below w.heap.size w w7 := below_frm hB6 hF7 (by omega) (by omega) (by omega)
  have hs7 := hF7.size
  have hlt7 : w5.heap.size < w7.heap.size := by omega
  have f2 := hm7.fr 2
  have c2 := hm7.c2
  clear hm6 hR6 hr6 hB6 HSY hF7
  go_upto_region 10 with fail
  clear f2 c2
  have hm8 : BoxM (w7.setCell ⟨W.heap.size, 2, none⟩ (.bool sy)) W.heap.size cl co sy (.slice none 0 0) := heap_setCell_same w7 _ 2 _ 24 _ hm7
  have hr8 : BoxM (w7.setCell ⟨W.heap.size, 2, none⟩ (.bool sy)) w.heap.size 0 0 false (.slice none 0 0) := (Below.heap_setCell _ _ _ _ (by show w.heap.size ≠ W.heap.size; omega)).trans hr7
  have hRM8 : RM (w7.setCell ⟨W.heap.size, 2, none⟩ (.bool sy)) w5.heap.size d S2 := hR7.keep (by simp) (Below.heap_setCell _ _ _ _ (by show w5.heap.size ≠ W.heap.size; omega)) (fun _ => Below.heap_setCell _ _ _ _ (by show d ≠ W.heap.size; omega))
  have hB8 : Below w.heap.size w (w7.setCell ⟨W.heap.size, 2, none⟩ (.bool sy)) := hB7.setCell (by show _ ≤ W.heap.size; omega) _
  have hs8 : w5.heap.size ≤ (w7.setCell ⟨W.heap.size, 2, none⟩ (.bool sy)).heap.size := by simp; omega
  have hlt8 : w5.heap.size < (w7.setCell ⟨W.heap.size, 2, none⟩ (.bool sy)).heap.size := by simp; omega
  generalize w7.setCell ⟨W.heap.size, 2, none⟩ (.bool sy) = W8 at *
  clear hm7 hr7 hR7 hB7 hs7 hlt7 hs6 hlt6
 all_goals
  clear HCM hcl hB5 hl hl2 hcl0 HK
  have HAR := Lib.hid (HA.out w5.heap.size S2 W8 hRM8 hlen8)
  unfold ArgsSaid at HAR
  generalize (argsS (sb sk) S2).1 = args at *
  generalize (argsS (sb sk) S2).2 = T at *
  clear HA hRM8 hlen8
  go_wp2_with fail
  with_reducible refine HAR.out.mono ?_
  rintro e w9 ⟨A9, c9, rfl, hL9, hR9, hF9⟩
  have hm9 : BoxM w9 W.heap.size cl co sy (.slice none 0 0) := (hF9.block _ hm8.lt (by omega) (by omega)).trans hm8
  have hr9 : BoxM w9 w.heap.size 0 0 false (.slice none 0 0) := (hF9.block _ hr8.lt (by omega) (by omega)).trans hr8
  have hB9 : Below w.heap.size w w9 := below_frm hB8 hF9 (by omega) (by omega) (by omega)
  have hs9 := hF9.size
  have f3 := hm9.fr 3
  have c3 := hm9.c3
  clear hm8 hr8 hB8 HAR hF9
  go_upto_region 11 with fail
  clear f3 c3
  have hm : BoxM (w9.setCell ⟨W.heap.size, 3, none⟩ (.slice A9 args.length c9)) W.heap.size cl co sy (.slice A9 args.length c9) := heap_setCell_same w9 _ 3 _ 24 _ hm9
  have hr : BoxM (w9.setCell ⟨W.heap.size, 3, none⟩ (.slice A9 args.length c9)) w.heap.size 0 0 false (.slice none 0 0) := (Below.heap_setCell _ _ _ _ (by show w.heap.size ≠ W.heap.size; omega)).trans hr9
  have hRM : RM (w9.setCell ⟨W.heap.size, 3, none⟩ (.slice A9 args.length c9)) w5.heap.size d T := hR9.keep (by simp) (Below.heap_setCell _ _ _ _ (by show w5.heap.size ≠ W.heap.size; omega)) (fun _ => Below.heap_setCell _ _ _ _ (by show d ≠ W.heap.size; omega))
  have hB : Below w.heap.size w (w9.setCell ⟨W.heap.size, 3, none⟩ (.slice A9 args.length c9)) := hB9.setCell (by show _ ≤ W.heap.size; omega) _
  have hL : ListA (lowm W8.heap.size (w9.setCell ⟨W.heap.size, 3, none⟩ (.slice A9 args.length c9))) args A9 c9 := hL9.sub (low_set (by omega) 3 _)
  have hs : W8.heap.size ≤ (w9.setCell ⟨W.heap.size, 3, none⟩ (.slice A9 args.length c9)).heap.size := by simp; omega
  generalize w9.setCell ⟨W.heap.size, 3, none⟩ (.slice A9 args.length c9) = W9 at *
  clear hm9 hr9 hR9 hB9 hs9 hL9
  have p0 := hm.c0
  have p1 := hm.c1
  have p2 := hm.c2
  have p3 := hm.c3
  have c0 := hr.c0
  have c1 := hr.c1
  have c2 := hr.c2
  have c3 := hr.c3
  have f0 := hr.fr 0
  have f1 := hr.fr 1
  have f2 := hr.fr 2
  have f3 := hr.fr 3
  have HL := Lib.hid hL
  have HR := Lib.hid (And.intro hr (And.intro hB hs))
  have HM := Lib.hid hm
  have HZ := Lib.hid (And.intro hrs (And.intro hs5 hlt8))
  clear hr hB hs hL hm
  cases T with
  | none =>
   obtain rfl : O = none := HYN.out.2 (fun h => by cases h.1)
   have b1 : W9.cell? ⟨w5.heap.size, 1, none⟩ = some (.bool true) := cell_of_row _ _ 1 _ 76 (0, 0) hRM
   clear hRM HYN HCN
   go_wp2_with fail
   refine bodyPost_ret (results_row_tmp rfl _ _ w.heap.size 24 _ (0, 0) _ rfl (set4_row HR.out.1) Tryz.underlying24 rfl (by kernel_rfl)) rfl ?_
   exact ⟨set4_below HR.out.2.1 (Nat.le_refl _), .inl ⟨rfl, rfl⟩⟩
  | some T =>
   obtain ⟨AT, cT, hT, _, _⟩ := hRM
   have b0 : W9.cell? ⟨w5.heap.size, 0, none⟩ = some (.slice AT T.length cT) := cell_of_row _ _ 0 _ 76 (0, 0) hT
   have b1 : W9.cell? ⟨w5.heap.size, 1, none⟩ = some (.bool false) := cell_of_row _ _ 1 _ 76 (0, 0) hT
   clear hT
   by_cases hz : T = []
   ·subst hz
    simp only [List.length_nil] at b0
    have HCK := Lib.hid (mcheck_walk cl co sy args A9 c9 W9 (HL.out.sub (low_out _ _)) HCN.out)
    by_cases hv : validM ⟨cl, co, sy, args⟩
    ·obtain rfl : O = some ⟨cl, co, sy, args⟩ := HYN.out.1 rfl hv
     rw [errC_ok hv] at HCK
     clear HYN HCN hv
     go_wp2_with fail
     with_reducible refine HCK.out.mono ?_
     rintro e w11 ⟨rfl, hb11⟩
     have hm11 := HM.out.kept hb11 (Nat.le_refl _)
     have hr11 := HR.out.1.kept hb11 (Nat.le_refl _)
     have HB11 := Lib.hid hb11
     clear hb11 p0 p1 p2 p3 c0 c1 c2 c3 f0 f1 f2 f3 b0 b1
     have p0 := hm11.c0
     have p1 := hm11.c1
     have p2 := hm11.c2
     have p3 := hm11.c3
     have c0 := hr11.c0
     have c1 := hr11.c1
     have c2 := hr11.c2
     have c3 := hr11.c3
     have f0 := hr11.fr 0
     have f1 := hr11.fr 1
     have f2 := hr11.fr 2
     have f3 := hr11.fr 3
     have HR11 := Lib.hid hr11
     clear hr11 hm11
     go_wp2_with fail
     refine bodyPost_ret (results_row_tmp rfl _ _ w.heap.size 24 _ (0, 0) _ rfl (set4_row HR11.out) Tryz.underlying24 rfl (by kernel_rfl)) rfl ?_
     have hz1 := HZ.out
     have hz2 := HR.out.2.1.size
     refine ⟨set4_below (HR.out.2.1.trans (HB11.out.mono hz2)) (Nat.le_refl _), .inr ⟨_, A9, c9, rfl, rfl, ?_⟩⟩
     refine ((HL.out.sub (low_sub HB11.out.size fun k _ hk => HB11.out.block k hk)).sub (set4_sub ?_)).sub (low_out _ _)
     omega
    ·obtain rfl : O = none := HYN.out.2 (fun h => hv h.2)
     rw [errC_no hv] at HCK
     clear HYN HCN hv
     go_wp2_with fail
     with_reducible refine HCK.out.mono ?_
     rintro e w11 ⟨rfl, hb11⟩
     have hr11 := HR.out.1.kept hb11 (Nat.le_refl _)
     have HB11 := Lib.hid hb11
     clear hb11 p0 p1 p2 p3 c0 c1 c2 c3 f0 f1 f2 f3 b0 b1
     have c0 := hr11.c0
     have c1 := hr11.c1
     have c2 := hr11.c2
     have c3 := hr11.c3
     have f0 := hr11.fr 0
     have f1 := hr11.fr 1
     have f2 := hr11.fr 2
     have f3 := hr11.fr 3
     have HR11 := Lib.hid hr11
     clear hr11
     go_wp2_with fail
     refine bodyPost_ret (results_row_tmp rfl _ _ w.heap.size 24 _ (0, 0) _ rfl (set4_row HR11.out) Tryz.underlying24 rfl (by kernel_rfl)) rfl ?_
     exact ⟨set4_below (HR.out.2.1.trans (HB11.out.mono HR.out.2.1.size)) (Nat.le_refl _), .inl ⟨rfl, rfl⟩⟩
   ·obtain rfl : O = none := HYN.out.2 (fun h => hz (Option.some.inj h.1))
    have hp : 0 < T.length := List.length_pos_iff.2 hz
    have tp : (0 : Int) < (T.length : Int) := by omega
    clear HYN HCN hz
    go_wp2_with fail
    refine bodyPost_ret (results_row_tmp rfl _ _ w.heap.size 24 _ (0, 0) _ rfl (set4_row HR.out.1) Tryz.underlying24 rfl (by kernel_rfl)) rfl ?_
    exact ⟨set4_below HR.out.2.1 (Nat.le_refl _), .inl ⟨rfl, rfl⟩⟩
end Go.Proofs.YtpbdnfonflmncaaGreat
