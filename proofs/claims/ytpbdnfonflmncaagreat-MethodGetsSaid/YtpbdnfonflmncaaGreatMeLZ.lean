/-
  The contract of method.Put.
  Conditions: none but sizes.
-/
import Derived.Test.YtpbdnfonflmncaaGreatMeJZ
import Derived.Test.YtpbdnfonflmncaaGreatMeIZ
namespace Go.Proofs.YtpbdnfonflmncaaGreat
open Go.RowKit
set_option linter.unusedVariables false
set_option linter.unusedSimpArgs false
theorem encA_len {k : Nat} {a : ArgP} (hk : lett k) (hv : fitA k a) : (encA k a).length ≤ 880000 := by
 unfold encA
 split
 ·rename_i h
  rw [be_length]
  rcases (widD_num h).2 with e | e | e <;> rw [e] <;> omega
 ·split
  ·rename_i h
   have h2 := (fit_txt a h).1 hv
   rw [List.length_append, be_length, sb_length]
   rcases (widD_txt h).2 with e | e <;> rw [e] at h2 ⊢ <;> omega
  ·split
   ·rename_i h
    subst h
    have h2 := (fit_x a).1 hv
    rw [encX_length]
    have := h2.2.1
    have := h2.2.2
    omega
   ·split
    ·rename_i h
     subst h
     have h2 := (fit_q a).1 hv
     rw [encS_eq, List.length_append, be_length, bodyS_length]
     omega
    ·split
     ·rename_i h
      subst h
      have := bytes_le ((fit_v a).1 hv)
      omega
     ·simp
theorem encArgs_take : ∀ (ks : List UInt8) (l : List ArgP) (j : Nat) (h : j < ks.length) (h' : j < l.length), encArgs (ks.take (j + 1)) (l.take (j + 1)) = encArgs (ks.take j) (l.take j) ++ encA ks[j].toNat l[j]
 | k :: ks, a :: l, 0, _, _ => by simp [encArgs]
 | k :: ks, a :: l, j + 1, h, h' => by
  simp only [List.take_succ_cons, encArgs, List.getElem_cons_succ]
  rw [encArgs_take ks l j (by simpa using h) (by simpa using h'), List.append_assoc]
theorem encArgs_len : ∀ (ks : List UInt8) (l : List ArgP), (∀ k ∈ ks, lett k.toNat) → allV ks l → (encArgs ks l).length ≤ 880000 * ks.length
 | [], [], _, _ => by simp [encArgs]
 | k :: ks, a :: l, h, hv => by
  have h1 := encA_len (h k (by simp)) hv.1.2.1
  have h2 := encArgs_len ks l (fun x hx => h x (by simp [hx])) hv.2
  simp only [encArgs, List.length_append, List.length_cons]
  omega
theorem encArgs_take_le (ks : List UInt8) (l : List ArgP) (j : Nat) (h : l.length = ks.length) : (encArgs (ks.take j) (l.take j)).length ≤ (encArgs ks l).length := by
 induction ks generalizing l j with
 | nil => cases l <;> simp [encArgs]
 | cons k ks ih =>
  cases l with
  | nil => simp [encArgs]
  | cons a l =>
   cases j with
   | zero => simp [encArgs]
   | succ j =>
    simp only [List.take_succ_cons, encArgs, List.length_append]
    have := ih l j (by simpa using h)
    omega
theorem mput1_any (v : Value) (l : List UInt8) (d n : Nat) (w : World) (h : Shows w d v l) (hl : l.length ≤ 100) : Calls Tryz.prog 18 #[v, .int .u64 n, .int .i64 1] w fun e w' => ∃ v', e = .returned v' ∧ Own 5 w' w.heap.size v' (l ++ be 1 n) ∧ Below w.heap.size w w' := by
 have := put_any v l d n 1 w h (by omega)
 rwa [show wd 1 = 1 from rfl] at this
theorem mput2_any (v : Value) (l : List UInt8) (d n : Nat) (w : World) (h : Shows w d v l) (hl : l.length ≤ 100) : Calls Tryz.prog 18 #[v, .int .u64 n, .int .i64 2] w fun e w' => ∃ v', e = .returned v' ∧ Own 5 w' w.heap.size v' (l ++ be 2 n) ∧ Below w.heap.size w w' := by
 have := put_any v l d n 2 w h (by omega)
 rwa [show wd 2 = 2 from rfl] at this
set_option maxRecDepth 100000 in
set_option maxHeartbeats 8000000 in
theorem mput_ok (cl co : Nat) (sy : Bool) (l : List ArgP) (A : Option Addr) (c : Nat) (w : World) (h : ListA w l A c) (hc : ∀ a ∈ l, cntT a.v ≤ 1000000) (hv : validM ⟨cl, co, sy, l⟩) :
    Calls Tryz.prog 8 #[.agg #[.int .u8 cl, .int .u8 co, .bool sy, .slice A l.length c]] w fun e w' => ∃ v, e = .returned (.tuple #[v, .int .i64 0]) ∧ Own 5 w' w.heap.size v (m_putM ⟨cl, co, sy, l⟩) ∧ Below w.heap.size w w' := by
  have hX := BoxM.new w cl co sy (.slice A l.length c)
  have hb0 : Below w.heap.size w (w.alloc (Obj.cells #[.int .u8 cl, .int .u8 co, .bool sy, .slice A l.length c] 24)) := below_box w _
  have HC := Lib.hid (mcheck_walk cl co sy l A c _ (h.kept hb0 (Nat.le_refl _)) hc)
  rw [errC_ok hv] at HC
  have HL := Lib.hid (fun w' (hb : Below w.heap.size w w') => h.kept hb (Nat.le_refl _))
  obtain ⟨ks, hk0, hal0, hsy0⟩ := hv
  have hk : kindsD cl co = some ks := hk0
  have hal : allV ks l := hal0
  have hsy : sy = true → 2 < cl := hsy0
  clear hk0 hal0 hsy0
  obtain ⟨hcl1, hcl2, hco, hkl, hlet⟩ := kinds_ok hk
  have hlen : l.length = ks.length := allV_len hal
  have hlk : l.length ≤ 3 := by omega
  obtain ⟨s, hs⟩ : ∃ s, m_findD cl co = some s := by
    cases hf : m_findD cl co with
    | none => rw [kinds_none hf] at hk; cases hk
    | some s => exact ⟨s, rfl⟩
  have hks : ks = sb s.kinds := by rw [kinds_of hs] at hk; exact (Option.some.inj hk).symm
  subst hks
  obtain ⟨R, hR⟩ : ∃ R, R = m_putM ⟨cl, co, sy, l⟩ := ⟨_, rfl⟩
  rw [← hR]
  unfold m_putM headM at hR
  rw [hk] at hR
  simp only [Option.getD_some] at hR
  have HFL := Lib.hid (fun w' (hb : Below w.heap.size w w') => m_flags_any l A c w' (h.kept hb (Nat.le_refl _)) (by omega))
  have HKI := Lib.hid (kinds_any cl co)
  rw [hs] at HKI
  simp only [Option.isSome, Option.getD] at HKI
  have HCM := Lib.hid (isCmd_any cl)
  have HSY := Lib.hid (syncB_any sy)
  obtain ⟨sn, hsn⟩ : ∃ sn : Nat, sn = if sy = true then 1 else 0 := ⟨_, rfl⟩
  rw [← hsn] at HSY
  have HSN := Lib.hid hsn
  clear hsn
  have HP1 := Lib.hid (fun n w => mput1_nil n w)
  have HP := Lib.hid mput1_any
  have HP2 := Lib.hid mput2_any
  have HAL := Lib.hid hal
  have HLET := Lib.hid hlet
  have HRR := Lib.hid hR
  have HLEN := Lib.hid hlen
  have HX := Lib.hid hX
  generalize hW : w.alloc (Obj.cells #[.int .u8 cl, .int .u8 co, .bool sy, .slice A l.length c] 24) = W at *
  have HW := Lib.hid hW
  have HB0 := Lib.hid hb0
  have p0 := hX.c0
  have p1 := hX.c1
  have p2 := hX.c2
  have p3 := hX.c3
  have HW64 := Lib.hid (And.intro (show IntKind.u64.wrap (cl : Int) = (cl : Int) by rw [IntKind.wrap_u64]; omega) (show IntKind.u64.wrap (co : Int) = (co : Int) by rw [IntKind.wrap_u64]; omega))
  clear h hc hW hX hal hlet hk hs hR hb0 hlen
  go_enter Tryz.func8, Tryz.ntmps8
  go_upto_region 1 with fail
  rw [HW.out]
  go_wp2_with fail
  refine HC.out.mono ?_
  rintro e w1 ⟨rfl, hb1⟩
  have HX1 := Lib.hid (HX.out.kept hb1 (Nat.le_refl _))
  have hB1 : Below w.heap.size w w1 := HB0.out.trans (hb1.mono HB0.out.size)
  have q0 := HX1.out.c0
  clear p0 p1 p2 p3 hb1
  have hwa := HW64.out.1
  go_wp2_with fail
  clear hwa
  refine (HP1.out cl _).mono ?_
  rintro e w2 ⟨v2, rfl, ho2, hb2⟩
  have HX2 := Lib.hid (HX1.out.kept hb2 (Nat.le_refl _))
  have hB2 : Below w.heap.size w w2 := hB1.trans (hb2.mono hB1.size)
  obtain ⟨g2, _, hs2⟩ := ho2.shows
  have q1 := HX2.out.c1
  clear q0 hb2 ho2
  have hwb := HW64.out.2
  go_wp2_with fail
  clear hwb
  refine (HP.out v2 _ g2 co _ hs2 (by simp [be_length])).mono ?_
  rintro e w5 ⟨v5, rfl, ho3, hb3⟩
  have HX3 := Lib.hid (HX2.out.kept hb3 (Nat.le_refl _))
  have hB3 : Below w.heap.size w w5 := hB2.trans (hb3.mono hB2.size)
  obtain ⟨g3, _, hs3⟩ := ho3.shows
  have q0 := HX3.out.c0
  have q2 := HX3.out.c2
  have HB3 := Lib.hid hB3
  have HS3 := Lib.hid hs3
  have HO3 := Lib.hid (ho3.mono hB2.size)
  have hways : cl ≤ 2 ∨ 2 < cl := by omega
  clear ho3 hs3 hB3 hB2 hs2 hb3 hB1 q1
  rcases hways with hc2 | hc2
  case' inl =>
    have hcm := fun w => HCM.out w
    rw [decide_eq_false (by omega)] at hcm
    have hhead : R = (be 1 cl ++ be 1 co) ++ (be 2 (m_flagsD l) ++ encArgs (sb s.kinds) l) := by
      rw [HRR.out, if_neg (by omega), be1_byte, be1_byte]
      rfl
    have HH := Lib.hid hhead
    have HO5 := HO3
    have HX5 := HX3
    have HB5 := HB3
    clear hc2 hhead
    go_wp2_with fail
    refine (hcm _).mono ?_
    rintro e w4 ⟨rfl, rfl⟩
    rename World => w5
    go_upto_region 9 with fail
    clear q0 q2 hcm HO3 HX3 HB3 HS3
    have HPL := Lib.hid (show (be 1 cl ++ be 1 co).length ≤ 100 by simp [be_length])
    generalize be 1 cl ++ be 1 co = P at *
  case' inr =>
    have hcm := fun w => HCM.out w
    rw [decide_eq_true (by omega)] at hcm
    have hhead : R = ((be 1 cl ++ be 1 co ++ be 1 1) ++ be 1 sn) ++ (be 2 (m_flagsD l) ++ encArgs (sb s.kinds) l) := by
      rw [HRR.out, if_pos hc2, be1_byte, be1_byte, be1_byte, be1_byte, HSN.out]
      cases sy <;> rfl
    have HH := Lib.hid hhead
    clear hc2 hhead
    go_wp2_with fail
    refine (hcm _).mono ?_
    rintro e w4 ⟨rfl, rfl⟩
    go_wp2_with fail
    refine (HP.out v5 _ g3 1 _ HS3.out (by simp [be_length])).mono ?_
    rintro e w6 ⟨v6, rfl, ho6, hb6⟩
    have HX6 := Lib.hid (HX3.out.kept hb6 (Nat.le_refl _))
    have hB6 : Below w.heap.size w w6 := HB3.out.trans (hb6.mono HB3.out.size)
    obtain ⟨g6, _, hs6⟩ := ho6.shows
    have r2 := HX6.out.c2
    clear hb6 q0 q2
    go_wp2_with fail
    refine (HSY.out _).mono ?_
    rintro e w4 ⟨rfl, rfl⟩
    go_wp2_with fail
    refine (HP.out v6 _ g6 _ _ hs6 (by simp [be_length])).mono ?_
    rintro e w5 ⟨v5, rfl, ho5, hb5⟩
    have HX5 := Lib.hid (HX6.out.kept hb5 (Nat.le_refl _))
    have HB5 := Lib.hid (hB6.trans (hb5.mono hB6.size))
    have HO5 := Lib.hid (ho5.mono hB6.size)
    go_upto_region 9 with fail
    clear r2 hcm HO3 HX3 HB3 HS3 ho5 hb5 hB6 hs6 ho6
    have HPL := Lib.hid (show ((be 1 cl ++ be 1 co ++ be 1 1) ++ be 1 sn).length ≤ 100 by simp [be_length])
    generalize (be 1 cl ++ be 1 co ++ be 1 1) ++ be 1 sn = P at *
  all_goals
    have q3 := HX5.out.c3
    go_wp2_with fail
    refine (HFL.out _ HB5.out).mono ?_
    rintro e w7 ⟨rfl, hb7⟩
    have ho7 := HO5.out.keep (fun g hg => hb7.block g (HO5.out.block g hg).2)
    have HX7 := Lib.hid (HX5.out.kept hb7 (Nat.le_refl _))
    have hB7 : Below w.heap.size w w7 := HB5.out.trans (hb7.mono HB5.out.size)
    obtain ⟨g7, _, hs7⟩ := ho7.shows
    clear q3 hb7 ho7
    go_wp2_with fail
    refine (HP2.out v5 P g7 _ _ hs7 HPL.out).mono ?_
    rintro e w8 ⟨v8, rfl, ho8, hb8⟩
    have HX8 := Lib.hid (HX7.out.kept hb8 (Nat.le_refl _))
    have HB8 := Lib.hid (hB7.trans (hb8.mono hB7.size))
    have HO8 := Lib.hid (ho8.mono hB7.size)
    have q0 := HX8.out.c0
    have q1 := HX8.out.c1
    clear hb8 ho8 hs7 hB7
    go_wp2_with fail
    refine (HKI.out _).mono ?_
    rintro e w9 ⟨rfl, hb9⟩
    have HX9 := Lib.hid (HX8.out.kept hb9 (Nat.le_refl _))
    have HB9 := Lib.hid (HB8.out.trans (hb9.mono HB8.out.size))
    have HO9 := Lib.hid (HO8.out.keep (fun g hg => hb9.block g (HO8.out.block g hg).2))
    have q3 := HX9.out.c3
    clear hb9 q0 q1
    have HPL2 := Lib.hid (show (P ++ be 2 (m_flagsD l)).length ≤ 102 by rw [List.length_append, be_length]; have := HPL.out; omega)
    have HRE := Lib.hid (show R = (P ++ be 2 (m_flagsD l)) ++ encArgs (sb s.kinds) l by rw [HH.out, List.append_assoc])
    generalize P ++ be 2 (m_flagsD l) = P2 at *
    obtain ⟨sc, sw, sk⟩ := s
    simp only [] at *
    clear HP HP1 HP2 HKI HCM HSY HFL HX HX1 HX2 HX5 HX7 HX8 HB8 HO8 HO5 HB5 HH HRR HW64 HC HSN
    go_wp2_with fail
    go_loopw [5, 50] (fun out i wr => ∃ j : Nat, j ≤ l.length ∧ i = .int .i64 j ∧ Own 5 wr w.heap.size out (P2 ++ encArgs ((sb sk).take j) (l.take j)) ∧ Below w.heap.size w wr) (fun _ i _ => l.length - (intOf i).toNat)
    case atStart => exact ⟨0, by omega, rfl, by simpa [encArgs] using HO9.out, HB9.out⟩
    case round =>
      obtain ⟨j, hj, rfl, ho, hb⟩ := hrel
      rename World => wj
      clear q3
      by_cases hlt : j < l.length
      · have hjk : j < sk.size := by have := HLEN.out; rw [sb_length] at this; omega
        have hjl : (j : Int) < (l.length : Int) := by omega
        have hjs : (j : Int) < (sk.size : Int) := by omega
        obtain ⟨d, o, B, e, dq, v0, v1, v2, v3, v4, rfl, hd, hsh, ⟨e0, e1, e2⟩, ⟨e3, e4, e5⟩, e6, e7, e8, e9, e10, e11⟩ := (HL.out wj hb).at_ j hlt
        have hkk : (sb sk)[j]'(by rw [sb_length]; exact hjk) = sk[j] := sb_get sk j hjk _
        have hlj : lett (sk[j].toNat) := by rw [← hkk]; exact HLET.out _ (List.getElem_mem _)
        have hva : validA sk[j].toNat l[j] := by rw [← hkk]; exact ((allV_iff _ _).1 HAL.out).2 j (by rw [sb_length]; exact hjk) hlt
        have hst := encArgs_take (sb sk) l j (by rw [sb_length]; exact hjk) hlt
        rw [hkk] at hst
        have hl1 := encArgs_take_le (sb sk) l j HLEN.out
        have hl2 := encArgs_len (sb sk) l HLET.out HAL.out
        have hl3 := encA_len hlj hva.2.1
        have hl4 : (encArgs (sb sk) l).length ≤ 3000000 := by omega
        have hbig : (P2 ++ encArgs ((sb sk).take j) (l.take j)).length ≤ 3000102 := by rw [List.length_append]; have := HPL2.out; omega
        have hnext : P2 ++ encArgs ((sb sk).take (j + 1)) (l.take (j + 1)) = (P2 ++ encArgs ((sb sk).take j) (l.take j)) ++ encA sk[j].toNat l[j] := by rw [hst, List.append_assoc]
        obtain ⟨xk, xn, xs, xa, xb, xc, xd, xe, xf, hxx⟩ := hsh.v.cells5
        simp only [List.cons.injEq, and_true] at hxx
        obtain ⟨rfl, rfl, rfl, rfl, rfl⟩ := hxx
        have HEN := Lib.hid (fun w' (hb : Below wj.heap.size wj w') => encA_any sk[j].toNat l[j] B e dq (.int .u8 xk) (.int .u64 xn) (.string xs) (.slice xa xb xc) (.slice xd xe xf) w' hlj (hsh.kept hb (Nat.le_refl _)) hva)
        have HBX := Lib.hid (BoxG.new wj l[j] (.slice B l[j].q.length e) (.int .u8 xk) (.int .u64 xn) (.string xs) (.slice xa xb xc) (.slice xd xe xf))
        have HNE := Lib.hid hnext
        have HBG := Lib.hid (And.intro hbig hl3)
        have HBJ := Lib.hid hb
        have HOJ := Lib.hid ho
        clear hkk hlj hva hst hl1 hl2 hl3 hl4 hbig hnext hsh hb ho
        unfold argV EncA at HEN
        generalize hlj : l[j] = aj at *
        clear hlj
        generalize P2 ++ encArgs ((sb sk).take j) (l.take j) = acc at *
        generalize encA sk[j].toNat aj = ex at *
        obtain ⟨ai, an, az, af, ag, ah, aq, av⟩ := aj
        simp only [] at *
        go_upto_region 14 with fail
        have hb3 : Below wj.heap.size wj (wj.alloc (Obj.cells #[.bool ai, .int .u64 an, .string az, .int .u32 af, .string ag, .string ah, .slice B aq.length e, .int .u8 xk, .int .u64 xn, .string xs, .slice xa xb xc, .slice xd xe xf] 52)) := below_box wj _
        clear e0 e1 e2 e3 e4 e5 e6 e7 e8 e9 e10 e11
        generalize wj.alloc (Obj.cells #[.bool ai, .int .u64 an, .string az, .int .u32 af, .string ag, .string ah, .slice B aq.length e, .int .u8 xk, .int .u64 xn, .string xs, .slice xa xb xc, .slice xd xe xf] 52) = W3 at *
        have HKEEP := Lib.hid (fun w' (hb : Below W3.heap.size W3 w') => (show (w'.cell? ⟨wj.heap.size, 0, none⟩ = some (.bool ai) ∧ w'.cell? ⟨wj.heap.size, 1, none⟩ = some (.int .u64 an) ∧ w'.cell? ⟨wj.heap.size, 2, none⟩ = some (.string az)) ∧
            (w'.cell? ⟨wj.heap.size, 3, none⟩ = some (.int .u32 af) ∧ w'.cell? ⟨wj.heap.size, 4, none⟩ = some (.string ag) ∧ w'.cell? ⟨wj.heap.size, 5, none⟩ = some (.string ah)) ∧ w'.cell? ⟨wj.heap.size, 6, none⟩ = some (.slice B aq.length e) ∧
            (w'.cell? ⟨wj.heap.size, 7, none⟩ = some (.int .u8 xk) ∧ w'.cell? ⟨wj.heap.size, 8, none⟩ = some (.int .u64 xn) ∧ w'.cell? ⟨wj.heap.size, 9, none⟩ = some (.string xs) ∧ w'.cell? ⟨wj.heap.size, 10, none⟩ = some (.slice xa xb xc) ∧ w'.cell? ⟨wj.heap.size, 11, none⟩ = some (.slice xd xe xf)) from (BoxG.kept HBX.out hb (Nat.le_refl _)).cells))
        have HB3 := Lib.hid hb3
        have HEN3 := Lib.hid (fun w' (hb : Below W3.heap.size W3 w') => HEN.out w' (HB3.out.trans (hb.mono HB3.out.size)))
        have HO3 := Lib.hid (fun w' (hb : Below W3.heap.size W3 w') => (show Own 5 w' w.heap.size u5 acc from HOJ.out.keep (fun g hg => (HB3.out.trans (hb.mono HB3.out.size)).block g (HOJ.out.block g hg).2)))
        have hbd : Below W3.heap.size W3 W3.drew := below_drew1 (Below.refl _ _)
        have HNX := Lib.hid (fun w' w'' (hb' : Below w'.heap.size w' w'') (hb : Below W3.heap.size W3 w') => hb.trans (hb'.mono hb.size))
        have HKG := Lib.hid (fun w5 w6 (hb : Below W3.heap.size W3 w5) (hg : w5.grownBy w6 u5.ownBlock) => Lib.hid (show (w6.cell? ⟨wj.heap.size, 0, none⟩ = some (.bool ai) ∧ w6.cell? ⟨wj.heap.size, 1, none⟩ = some (.int .u64 an) ∧ w6.cell? ⟨wj.heap.size, 2, none⟩ = some (.string az)) ∧
            (w6.cell? ⟨wj.heap.size, 3, none⟩ = some (.int .u32 af) ∧ w6.cell? ⟨wj.heap.size, 4, none⟩ = some (.string ag) ∧ w6.cell? ⟨wj.heap.size, 5, none⟩ = some (.string ah)) ∧ w6.cell? ⟨wj.heap.size, 6, none⟩ = some (.slice B aq.length e) ∧
            (w6.cell? ⟨wj.heap.size, 7, none⟩ = some (.int .u8 xk) ∧ w6.cell? ⟨wj.heap.size, 8, none⟩ = some (.int .u64 xn) ∧ w6.cell? ⟨wj.heap.size, 9, none⟩ = some (.string xs) ∧ w6.cell? ⟨wj.heap.size, 10, none⟩ = some (.slice xa xb xc) ∧ w6.cell? ⟨wj.heap.size, 11, none⟩ = some (.slice xd xe xf)) from
          (show BoxG w6 wj.heap.size _ _ _ _ _ _ _ from (hg.block _ (BoxG.kept HBX.out hb (Nat.le_refl _)).lt (fun e => by have := (HOJ.out.block _ e.symm).2; omega)).trans (BoxG.kept HBX.out hb (Nat.le_refl _))).cells))
        have hsz3 := HB3.out.size
        have hszw := HBJ.out.size
        obtain ⟨hbg1, hbg2⟩ := HBG.out
        clear hb3
        go_region_held3 (fun w' => (w'.cell? ⟨wj.heap.size, 0, none⟩ = some (.bool ai) ∧ w'.cell? ⟨wj.heap.size, 1, none⟩ = some (.int .u64 an) ∧ w'.cell? ⟨wj.heap.size, 2, none⟩ = some (.string az)) ∧
            (w'.cell? ⟨wj.heap.size, 3, none⟩ = some (.int .u32 af) ∧ w'.cell? ⟨wj.heap.size, 4, none⟩ = some (.string ag) ∧ w'.cell? ⟨wj.heap.size, 5, none⟩ = some (.string ah)) ∧ w'.cell? ⟨wj.heap.size, 6, none⟩ = some (.slice B aq.length e) ∧
            (w'.cell? ⟨wj.heap.size, 7, none⟩ = some (.int .u8 xk) ∧ w'.cell? ⟨wj.heap.size, 8, none⟩ = some (.int .u64 xn) ∧ w'.cell? ⟨wj.heap.size, 9, none⟩ = some (.string xs) ∧ w'.cell? ⟨wj.heap.size, 10, none⟩ = some (.slice xa xb xc) ∧ w'.cell? ⟨wj.heap.size, 11, none⟩ = some (.slice xd xe xf))) (first | exact HKEEP.out _ (by assumption) | exact HK6.out)
          (first
            | (go_at_call 22
               refine (HEN3.out _ (by assumption)).mono ?_
               rintro e5 w5 ⟨v5, rfl, ho5, hb5⟩
               obtain ⟨g5, _, hs5⟩ := ho5.shows
               have hb5' := HNX.out _ _ hb5 (by assumption)
               have ho5' := HO3.out _ hb5'
               have hsz5 := hb5'.size)
            | (refine step_append8 _ (by rfl) (.tmp 55) (.tmp 60) 28 (by rfl) w.heap.size 5 Tryz.underlying28 info5 u5 acc (by rfl) ho5' g5 v5 ex (by rfl) hs5 (by omega) (by omega) ?_
               intro v6 w6 ho6 hg6
               have HK6 := HKG.out _ _ hb5' hg6
               have HO6 := Lib.hid (And.intro ho6 (And.intro hg6 hb5'))))
        all_goals
          have hb5w : Below w.heap.size w w5 := (HBJ.out.trans (HB3.out.mono HBJ.out.size)).trans (HO6.out.2.2.mono (by have := HBJ.out.size; have := HB3.out.size; omega))
          have hb6w := hb5w.grown HO6.out.2.1 hb5w.size (fun k hk => (HOJ.out.block k hk).1)
          have HB6 := Lib.hid (And.intro hb6w HO6.out.1)
          clear hb5w hb6w hd
          simp only [Exit.inBlock, Exit.then, Exit.noGoto]
          go_wp2_with fail
          go_roundw
          case rel => exact ⟨j + 1, by omega, by go_num, by rw [HNE.out]; exact HB6.out.2, HB6.out.1⟩
          case measure => simp [intOf]; omega
      · have hjl : ¬ (j : Int) < (l.length : Int) := by omega
        have he : P2 ++ encArgs ((sb sk).take j) (l.take j) = R := by
          rw [HRE.out, List.take_of_length_le (by have := HLEN.out; omega), List.take_of_length_le (by have := HLEN.out; omega)]
        rw [he] at ho
        clear he
        go_wp2_with fail
        go_ret2
        exact ⟨_, rfl, ho, hb⟩
end Go.Proofs.YtpbdnfonflmncaaGreat
