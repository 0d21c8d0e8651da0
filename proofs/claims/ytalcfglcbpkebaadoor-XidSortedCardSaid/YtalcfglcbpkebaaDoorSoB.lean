/-
  Rows of names in memory; the contract of the document's own Same for rows of names.
  Conditions: none but sizes.
-/
import Derived.Test.YtalcfglcbpkebaaDoorGen
import Derived.Test.YtalcfglcbpkebaaDoorXiB
namespace Go.Proofs.YtalcfglcbpkebaaDoor
open Go.RowKit
set_option linter.unusedVariables false
set_option linter.unusedSimpArgs false

abbrev XV := Nat × ByteArray × ByteArray
/-- How a name lies: three cells. -/
def xidC : Code XV := { enc := fun x => [.int .u32 x.1, .string x.2.1, .string x.2.2], sz := 3, len := fun _ => rfl, one := fun x u hu => by simp at hu; rcases hu with rfl | rfl | rfl <;> rfl, pos := by omega }
theorem infoXid : (Tryd.prog.info? 24).map (fun i => (i.zero, i.size, i.bytes)) = some (some (.agg #[.int .u32 0, .string ⟨#[]⟩, .string ⟨#[]⟩]), xidC.sz, 40) := by kernel_rfl

section
variable {w : World} {d o : Nat} {l : List XV}
theorem xid_cell0 (h : ∀ j (h : j < l.length) k, k < xidC.sz → w.cell? ⟨d, o + (j * xidC.sz + k), none⟩ = (xidC.enc l[j])[k]?) {k : Nat} (hk : k < l.length) : w.cell? ⟨d, o + k * 3, none⟩ = some (.int .u32 (l[k].1 : Nat)) := h k hk 0 (by decide)
theorem xid_cell1 (h : ∀ j (h : j < l.length) k, k < xidC.sz → w.cell? ⟨d, o + (j * xidC.sz + k), none⟩ = (xidC.enc l[j])[k]?) {k : Nat} (hk : k < l.length) : w.cell? ⟨d, o + k * 3 + 1, none⟩ = some (.string l[k].2.1) := h k hk 1 (by decide)
theorem xid_cell2 (h : ∀ j (h : j < l.length) k, k < xidC.sz → w.cell? ⟨d, o + (j * xidC.sz + k), none⟩ = (xidC.enc l[j])[k]?) {k : Nat} (hk : k < l.length) : w.cell? ⟨d, o + k * 3 + 2, none⟩ = some (.string l[k].2.2) := h k hk 2 (by decide)
end

theorem xidGuard : Tryd.prog.eqGuardType Tryd.prog.depth 24 = false := by kernel_rfl
theorem xidFields : Tryd.prog.underlying 24 = some (.struct (Tryd.prog.fieldsOf 24)) := by kernel_rfl
theorem xidHeld : Tryd.prog.stoodInHeld 24 = false := by kernel_rfl
theorem toList_beq (a b : ByteArray) : (a.toList == b.toList) = decide (a = b) := by
  by_cases h : a = b
  · subst h; simp
  · rw [decide_eq_false h]
    simpa using toList_ne h
theorem run_eq_xid (a b : Nat) (g h g' h' : ByteArray) (w : World) : (Op.equalIn 10000 24 (.agg #[.int .u32 (a : Int), .string g, .string h]) (.agg #[.int .u32 (b : Int), .string g', .string h'])).run Tryd.prog w = .ok (decide ((a, g, h) = (b, g', h'))) w := by
  rw [run_equalIn_agg w 9999 24 _ _ xidFields xidHeld]
  have hm : (Tryd.prog.fieldsOf 24).toList.map (fun f => (f.type, f.offset, f.name == "_")) = [(22, 0, false), (9, 1, false), (9, 2, false)] := by kernel_rfl
  generalize (Tryd.prog.fieldsOf 24).toList = fs at hm ⊢
  obtain ⟨f, t, rfl, hf, ht⟩ := List.map_eq_cons_iff.1 hm
  obtain ⟨f', t2, rfl, hg, ht2⟩ := List.map_eq_cons_iff.1 ht
  obtain ⟨f'', t3, rfl, hh, ht3⟩ := List.map_eq_cons_iff.1 ht2
  obtain rfl : t3 = [] := List.map_eq_nil_iff.1 ht3
  simp only [Prod.mk.injEq] at hf hg hh
  obtain ⟨f1, f2, f3⟩ := hf
  obtain ⟨g1, g2, g3⟩ := hg
  obtain ⟨h1, h2, h3⟩ := hh
  have f4 : ¬ f.name = "_" := by simpa using f3
  have g4 : ¬ f'.name = "_" := by simpa using g3
  have h4 : ¬ f''.name = "_" := by simpa using h3
  have e1 : ∀ x y : Nat, (Op.equalIn 9999 22 (.int .u32 (x : Int)) (.int .u32 (y : Int))).run Tryd.prog w = .ok ((x : Int) == (y : Int)) w := fun x y => run_equalIn_int w 9998 22 .u32 .u32 _ _ Tryd.underlying22
  have e2 : ∀ x y : ByteArray, (Op.equalIn 9999 9 (.string x) (.string y)).run Tryd.prog w = .ok (decide (x = y)) w := fun x y => by rw [← toList_beq]; exact run_equalIn_string w 9998 9 _ _ Tryd.underlying9
  by_cases k1 : a = b
  · by_cases k2 : g = g'
    · by_cases k3 : h = h'
      · simp [Op.eqFields, part, f1, f2, f4, g1, g2, g4, h1, h2, h4, e1, e2, k1, k2, k3]
      · simp [Op.eqFields, part, f1, f2, f4, g1, g2, g4, h1, h2, h4, e1, e2, k1, k2, k3]
    · simp [Op.eqFields, part, f1, f2, f4, g1, g2, g4, h1, h2, h4, e1, e2, k1, k2]
  · simp [Op.eqFields, part, f1, f2, f4, g1, g2, g4, h1, h2, h4, e1, e2, k1]; intro h; omega

set_option maxRecDepth 100000 in
set_option maxHeartbeats 1000000 in
theorem qsame_any (A1 A2 : Option Addr) (c1 c2 n1 n2 d1 d2 : Nat) (l m : List XV) (w : World) (hn1 : l.length = n1) (hn2 : m.length = n2) (hl : ShowsG xidC w d1 (.slice A1 n1 c1) l) (hm : ShowsG xidC w d2 (.slice A2 n2 c2) m) (hb : n1 ≤ 17592186044416) (hb2 : n2 ≤ 17592186044416) :
    Calls Tryd.prog 26 #[.slice A1 n1 c1, .slice A2 n2 c2] w fun e w' => e = .returned (.bool (decide (l = m))) ∧ ∃ q, w' = w.drewN q := by
  subst hn1
  subst hn2
  by_cases hlen : l.length = m.length
  · go_enter Tryd.func26, Tryd.ntmps26
    have hne : ((l.length : Int) != (m.length : Int)) = false := by simp; omega
    go_wp2_with fail
    go_loopw [5] (fun i wr => ∃ k q : Nat, k ≤ l.length ∧ i = .int .i64 k ∧ wr = w.drewN q ∧ l.take k = m.take k) (fun i _ => l.length - (intOf i).toNat)
    case atStart => exact ⟨0, 0, Nat.zero_le _, rfl, rfl, rfl⟩
    case round =>
      obtain ⟨k, q, hk, rfl, rfl, hsame⟩ := hrel
      by_cases hlt : k < l.length
      · have hlt2 : k < m.length := by omega
        obtain ⟨o, rfl, _, hcl⟩ := hl.at_ (by omega)
        obtain ⟨o', rfl, _, hcm⟩ := hm.at_ (by omega)
        have e0 := xid_cell0 hcl hlt
        have e1 := xid_cell1 hcl hlt
        have e2 := xid_cell2 hcl hlt
        have e3 := xid_cell0 hcm hlt2
        have e4 := xid_cell1 hcm hlt2
        have e5 := xid_cell2 hcm hlt2
        have hkl : (k : Int) < (l.length : Int) := by omega
        have hkm : (k : Int) < (m.length : Int) := by omega
        have hG := xidGuard
        have hE := run_eq_xid
        have hstep : l[k] = m[k] → l.take (k + 1) = m.take (k + 1) := fun h => by
          rw [List.take_succ_eq_append_getElem hlt, List.take_succ_eq_append_getElem hlt2, hsame, h]
        by_cases heq : l[k] = m[k]
        · have HS := Lib.hid (hstep heq)
          have hd : decide ((l[k].1, l[k].2.1, l[k].2.2) = (m[k].1, m[k].2.1, m[k].2.2)) = true := by rw [heq]; simp
          have E := Lib.hid hE
          generalize l[k].1 = a at *
          generalize l[k].2.1 = b at *
          generalize l[k].2.2 = x at *
          generalize m[k].1 = a' at *
          generalize m[k].2.1 = b' at *
          generalize m[k].2.2 = x' at *
          have hE2 := fun w => E.out a a' b x b' x' w
          rw [hd] at hE2
          clear hcl hcm hE heq hstep hsame hd
          go_wp2_with fail
          go_quiet (fail)
          go_wp2_with fail
          go_roundw
          case rel => exact ⟨k + 1, _, by omega, by go_num, rfl, HS.out⟩
          case measure => simp [intOf]; omega
        · have hfin : decide (l = m) = false := by
            simp
            rintro rfl
            exact heq rfl
          have hd : decide ((l[k].1, l[k].2.1, l[k].2.2) = (m[k].1, m[k].2.1, m[k].2.2)) = false := by
            simp only [decide_eq_false_iff_not]
            intro h
            simp only [Prod.mk.injEq] at h
            exact heq (Prod.ext h.1 (Prod.ext h.2.1 h.2.2))
          have E := Lib.hid hE
          generalize l[k].1 = a at *
          generalize l[k].2.1 = b at *
          generalize l[k].2.2 = x at *
          generalize m[k].1 = a' at *
          generalize m[k].2.1 = b' at *
          generalize m[k].2.2 = x' at *
          have hE2 := fun w => E.out a a' b x b' x' w
          rw [hd] at hE2
          clear hcl hcm hE heq hstep hsame hd
          go_wp2_with fail
          go_quiet (fail)
          go_wp2_with fail
          go_ret
          exact ⟨by first | rfl | (rw [hfin]; rfl), q + nq, World.drewN_drewN _ _ _⟩
      · have hfin : decide (l = m) = true := by
          rw [List.take_of_length_le (by omega), List.take_of_length_le (by omega)] at hsame
          simpa using hsame
        clear hsame
        go_wp2_with fail
        go_ret
        exact ⟨by first | rfl | (rw [hfin]; rfl), q, rfl⟩
  · have hfin : decide (l = m) = false := by
      simp
      rintro rfl
      exact hlen rfl
    have hne : ((l.length : Int) != (m.length : Int)) = true := by simp; omega
    go_enter Tryd.func26, Tryd.ntmps26
    go_wp2_with fail
    go_ret
    exact ⟨by first | rfl | (rw [hfin]; rfl), 0, rfl⟩

end Go.Proofs.YtalcfglcbpkebaaDoor
