/-
  The walk of what disk's Rename hands to operate.
  Conditions: none but sizes.
-/
import Derived.Test.YtngjmeohleoglaaDiG
namespace Go.Proofs.Ytngjmeohleoglaa
open Go.RowKit
set_option linter.unusedVariables false
set_option linter.unusedSimpArgs false
set_option maxRecDepth 100000

section
variable {w : World} {base nb mb : Nat} {st : DD} {A B : List PF} {x : PF}
set_option maxHeartbeats 2000000 in
theorem rename1_any (h : DiskI w base nb mb (A ++ x :: B) st) (hg : getA x.q st.fs = some x.f) (r : DName) (hq : x.q.length ≤ 140737488355328) (hr : r.length ≤ 140737488355328) (hu : usedL st.fs ≤ 9223372036854775807) {db sb' tb fb : Nat}
    (hdb : Bx w db (.pointer (some ⟨nb, 0, none⟩)) 23) (hsb : Bx w sb' (.string (str8 x.q)) 9) (htb : Bx w tb (.string (str8 r)) 9) (hfb : Bx w fb (.pointer (some ⟨x.p, 0, none⟩)) 65) :
    Calls Try.prog 55 #[.pointer (some ⟨db, 0, none⟩), .pointer (some ⟨sb', 0, none⟩), .pointer (some ⟨tb, 0, none⟩), .pointer (some ⟨fb, 0, none⟩)] w (RenamedD w base nb mb st (A ++ x :: B) x r) := by
  have h0 := (RenR.start h).drew
  obtain ⟨w1, hdel, h1⟩ := h0.drop hq
  rw [(delA_mid h.nodup).1] at h1
  have hlk := h1.drew.look hr
  -- what the put finds, from whatever world
  have HPUT := Lib.hid (fun w2 u (h2 : RenR w nb mb st.room u st.fuse st.down (Lof (A ++ B)) w2) (hu : u = usedL (setS r x.f (delA x.q st.fs))) =>
    And.intro (And.intro (h2.bx h hdb (by decide)).c (And.intro (h2.bx h htb (by decide)).c (And.intro (h2.bx h hfb (by decide)).c h2.box.c2)))
      (fun w3 (hb : Below w2.heap.size w2 w3) => (h2.below hb).put hr x.ptr))
  have HEND := Lib.hid (fun u w4 (h4 : RenR w nb mb st.room u st.fuse st.down (putA r x.ptr (Lof (A ++ B))) w4) (hu : u = usedL (setS r x.f (delA x.q st.fs))) => rename_end h r h4 hu)
  have HBX := True.intro
  have HC := Lib.hid (fun w2 => clone_any (str8 r) w2 (by rw [str8_size]; omega))
  have k0 : w.drew.cell? ⟨db, 0, none⟩ = _ := hdb.c
  have k1 : w.drew.cell? ⟨sb', 0, none⟩ = _ := hsb.c
  have k2 : w.drew.cell? ⟨nb, 2, none⟩ = _ := h.box.c2
  have l0 : w1.drew.cell? ⟨db, 0, none⟩ = _ := (h1.bx h hdb (by decide)).c
  have l1 : w1.drew.cell? ⟨tb, 0, none⟩ = _ := (h1.bx h htb (by decide)).c
  have l2 : w1.drew.cell? ⟨nb, 2, none⟩ = _ := h1.box.c2
  have m1 : w1.drew.drew.cell? ⟨nb, 1, none⟩ = _ := h1.box.c1
  have m2 : w1.drew.drew.cell? ⟨db, 0, none⟩ = _ := (h1.bx h hdb (by decide)).c
  have m3 := h1.drew.box.fr 1
  have hud := usedL_le_del h hg
  have hndAB : ((A ++ B).map (·.q)).Nodup := h.nodup.sublist ((List.Sublist.append (List.Sublist.refl A) (List.sublist_cons_self x B)).map _)
  have hperm := perm_mid h
  have hndd : ((delA x.q st.fs).map (·.1)).Nodup := delA_nodup h.rising
  have hget : getA r (Dof (A ++ B)) = getA r (delA x.q st.fs) := getA_perm hperm (by simpa [Dof, Function.comp_def] using hndAB)
  have husd : usedL (setS r x.f (delA x.q st.fs)) = x.f.b.length + usedL (delA r (delA x.q st.fs)) := used_set _ _ _
  unfold RenamedD
  cases hga : getA r (Dof (A ++ B)) with
  | none =>
    obtain ⟨hno, _⟩ := getA_Lof_none hga
    rw [hno] at hlk
    have hue : usedL st.fs = usedL (setS r x.f (delA x.q st.fs)) := by
      rw [husd, used_del_none (hget.symm.trans hga)]; omega
    have H1 := Lib.hid h1.drew.drew
    have HU := Lib.hid hue
    clear h0 h1 hud hndAB hperm hndd hget husd hga hue hg hu hdb hsb htb hfb h hq hr
    go_enter Try.func55, Try.ntmps55
    go_wp2_with fail
    go_region
    go_wp2_with fail
    go_region
    go_wp2_with fail
    have HX := Lib.hid (HPUT.out _ _ H1.out HU.out)
    have HY := Lib.hid (fun w5 (hb5 : Below w1.drew.drew.heap.size w1.drew.drew w5) => (HPUT.out w5 _ (H1.out.below hb5) HU.out).1)
    obtain ⟨q0, q1, q2, q3⟩ := HX.out.1
    clear k0 k1 k2 l0 l1 l2 m1 m2 m3 hdel hlk HPUT HBX
    generalize w1.drew = W at *
    go_region_law (first
      | (go_simp
         go_at_call 42
         refine (HC.out _).mono ?_
         rintro e w5 ⟨rfl, hb5⟩
         obtain ⟨p0, p1, p2, p3⟩ := HY.out w5 hb5
         obtain ⟨w6, hput, h6⟩ := HX.out.2 w5 hb5
         have hput' : (Instr.mapUpdate 48 (.map (some mb)) (.string (str8 r)) (.pointer (some ⟨x.p, 0, none⟩))).run Try.prog w5 = .ok () w6 := hput
         have H6 := Lib.hid (HEND.out _ _ h6 HU.out)
         clear hput h6))
    all_goals
      first | go_end0 | refine bodyPost_ret (results_none rfl _ _ _) rfl ?_
      exact ⟨rfl, H6.out.1, H6.out.2⟩
  | some f =>
    obtain ⟨A', y, B', hAB, e1, e2, e3⟩ := getA_Lof_some hndAB hga
    rw [e3] at hlk
    have hyX : y ∈ A ++ x :: B := by
      have : y ∈ A ++ B := by rw [hAB]; simp
      rcases List.mem_append.1 this with hy | hy <;> simp [hy]
    have by1 := h1.boxI h hyX
    obtain ⟨Ay, cy, hv, _, _⟩ := (h.file y hyX).2.form
    have hy2 := used_del hndd (hget.symm.trans hga)
    obtain ⟨u', hu'⟩ : ∃ u', u' = usedL (setS r x.f (delA x.q st.fs)) := ⟨_, rfl⟩
    have eu : IntKind.i64.wrap ((usedL st.fs : Int) - (y.f.b.length : Int)) = (u' : Int) := by rw [i64_id _ (by rw [e2]; omega) (by omega)]; rw [e2]; omega
    have y0 : w1.drew.drew.cell? ⟨y.p, 0, none⟩ = some (.slice Ay y.f.b.length cy) := by rw [← hv]; exact by1.c0
    have hlk' : (Instr.lookup 48 (.map (some mb)) (.string (str8 r)) true).run Try.prog w1.drew = .ok (.tuple #[.pointer (some ⟨y.p, 0, none⟩), .bool true]) w1.drew := hlk
    have H1 := Lib.hid (h1.setUsed u').drew.drew.drew
    have HU := Lib.hid hu'
    clear h0 h1 hud hndAB hperm hndd hget husd hga hg hu hdb hsb htb hfb h hq hr hlk hu' hy2 by1 hv e1 e2 e3 hAB hyX
    go_enter Try.func55, Try.ntmps55
    go_wp2_with fail
    go_region
    go_wp2_with fail
    go_region
    go_wp2_with fail
    go_region
    go_wp2_with fail
    have HX := Lib.hid (HPUT.out _ _ H1.out HU.out)
    have HY := Lib.hid (fun w5 (hb5 : Below (w1.setCell ⟨nb, 1, none⟩ (.int .i64 u')).drew.drew.drew.heap.size (w1.setCell ⟨nb, 1, none⟩ (.int .i64 u')).drew.drew.drew w5) => (HPUT.out w5 _ (H1.out.below hb5) HU.out).1)
    obtain ⟨q0, q1, q2, q3⟩ := HX.out.1
    clear k0 k1 k2 l0 l1 l2 m1 m2 m3 hdel hlk' HPUT HBX y0
    generalize (w1.setCell ⟨nb, 1, none⟩ (.int .i64 u')).drew.drew = W at *
    go_region_law (first
      | (go_simp
         go_at_call 42
         refine (HC.out _).mono ?_
         rintro e w5 ⟨rfl, hb5⟩
         obtain ⟨p0, p1, p2, p3⟩ := HY.out w5 hb5
         obtain ⟨w6, hput, h6⟩ := HX.out.2 w5 hb5
         have hput' : (Instr.mapUpdate 48 (.map (some mb)) (.string (str8 r)) (.pointer (some ⟨x.p, 0, none⟩))).run Try.prog w5 = .ok () w6 := hput
         have H6 := Lib.hid (HEND.out _ _ h6 HU.out)
         clear hput h6))
    all_goals
      first | go_end0 | refine bodyPost_ret (results_none rfl _ _ _) rfl ?_
      exact ⟨rfl, H6.out.1, H6.out.2⟩
end

end Go.Proofs.Ytngjmeohleoglaa
