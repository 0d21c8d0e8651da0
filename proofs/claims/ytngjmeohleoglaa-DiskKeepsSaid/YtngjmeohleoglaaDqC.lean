/-
  The document's drop and put of disks.
  Conditions: none but sizes.
-/
import Derived.Test.YtngjmeohleoglaaDqB
import Derived.Sort.Walk0
namespace Go.Proofs.Ytngjmeohleoglaa
open Go.RowKit Go.Shelf
set_option linter.unusedVariables false
set_option linter.unusedSimpArgs false
set_option maxRecDepth 100000

section
variable {w w' : World} {base qb room fuse n : Nat} {down : Bool} {v : Value} {st : DD}
/-- What drop and put leave. -/
def RowSaid (w : World) (base qb : Nat) (st : DD) (fs' : DRow) : Ending → World → Prop := fun e w' => e = .returned (.tuple #[]) ∧ ∃ v', QI w' base qb v' { st with fs := fs' } ∧ Mv (fun k => k = qb) w w' ∧ ∀ k, v'.ownBlock = some k → w.heap.size ≤ k
theorem row_end (h : QI w base qb v st) {w2 : World} {u : Value} {fs' : DRow} (hb : base ≤ w.heap.size) (hb2 : Below w.heap.size w w2) (ho : OwnG fileC 64 w2 w.heap.size u fs') :
    QI (w2.setCell ⟨qb, 0, none⟩ u) base qb u { st with fs := fs' } ∧ Mv (fun k => k = qb) w (w2.setCell ⟨qb, 0, none⟩ u) ∧ ∀ k, u.ownBlock = some k → w.heap.size ≤ k :=
  ⟨(h.below hb2).set0 (ho.mono hb), (Mv.of_below (F := fun k => k = qb) hb2).setCell (fun _ => rfl) _ _, fun k hk => (ho.block k hk).1⟩
theorem cut_idx (l : DRow) (i : Nat) : l.take i ++ l.drop (i + 1) = l.eraseIdx i := (List.eraseIdx_eq_take_drop_succ l i).symm

set_option maxHeartbeats 1000000 in
theorem qdrop_any (h : QI w base qb v st) (i : Nat) (hi : i < st.fs.length) (hn : st.fs.length ≤ 1000000) (hb : base ≤ w.heap.size) :
    Calls Try.prog 56 #[.pointer (some ⟨qb, 0, none⟩), .int .i64 i] w (RowSaid w base qb st (st.fs.eraseIdx i)) := by
  obtain ⟨A, c, hv, hlc, hcm⟩ := h.row.form
  subst hv
  obtain ⟨g, hg1, hsh⟩ := h.row.shows
  have hgw := hsh.lt (by omega)
  have c0 := h.box.c0
  obtain ⟨i1, hi1⟩ : ∃ i1, i1 = i + 1 := ⟨_, rfl⟩
  have HT := Lib.hid (fun w1 (hb1 : Below w.heap.size w w1) (A' : Option Addr) (c' : Nat) (hA : ¬ c = i1 → A' = A.map (fun x => x.add (i1 * 3))) (h1 : st.fs.length - i1 ≤ c') (h2 : c' ≤ maxLen) =>
    (hsh.below hb1 hgw).tail' (k := i1) (by omega) A' (fun h => hA (by omega)) h1 h2)
  have HH := Lib.hid ((hsh.head (k := i) (by omega)))
  have HB := Lib.hid (fun w1 (hb1 : Below w.heap.size w w1) => (h.below hb1).box)
  have HE := Lib.hid (fun w2 u (hb2 : Below w.heap.size w w2) (ho : OwnG fileC 64 w2 w.heap.size u (st.fs.take i ++ st.fs.drop i1)) => row_end h hb hb2 ho)
  have hcx := cut_idx st.fs i
  rw [← hi1] at hcx
  rw [hcx] at HE
  have HCX := Lib.hid hcx
  have bw : IntKind.i64.wrap ((i : Int) + 1) = (i1 : Int) := by rw [i64_id _ (by omega) (by omega)]; omega
  have bw' : wrap64 ((i : Int) + 1) = (i1 : Int) := by rw [w64_id _ (by omega) (by omega)]; omega
  have b1 : (i : Int) ≤ (st.fs.length : Int) := by omega
  have b2 : (i : Int) ≤ (c : Int) := by omega
  have b3 : (i1 : Int) ≤ (st.fs.length : Int) := by omega
  have b4 : (i1 : Int) ≤ (c : Int) := by omega
  have hi1' : i1 ≤ st.fs.length := by omega
  have HL := Lib.hid (And.intro hi1' (And.intro hlc (And.intro hcm hn)))
  clear hsh h hb hcx hg1 hgw hi1 hi hi1'
  unfold RowSaid
  go_enter Try.func56, Try.ntmps56
  go_wp2_with (first
    | (at_builtin
       refine wpList_appendG fileC _ rfl (.tmp 5) (.tmp 11) 51 rfl w.heap.size 64 (.agg #[.string ⟨#[]⟩, .string ⟨#[]⟩, .int .i64 0]) 40 Try.underlying51 infoFile rfl _ [] rfl (OwnG.nil_ _ _ _ _) g _ (st.fs.take i) rfl HH.out (by have := HL.out; simp; omega) (by have := HL.out; simp; omega) (Nat.le_refl _) ?_
       intro v1 w1 ho1 hg1
       have hb1 := (Below.refl w.heap.size w).grown hg1 (Nat.le_refl _) (fun j hj => by cases hj)
       have c01 := (HB.out w1 hb1).c0
       rw [List.nil_append] at ho1)
    | (at_builtin
       refine wpList_appendG fileC _ rfl (.tmp 14) (.tmp 21) 51 rfl w.heap.size 64 (.agg #[.string ⟨#[]⟩, .string ⟨#[]⟩, .int .i64 0]) 40 Try.underlying51 infoFile rfl _ (st.fs.take i) rfl ho1 g _ (st.fs.drop i1) rfl (HT.out w1 hb1 _ _ (by first | exact fun h => if_neg h | exact fun _ => rfl | exact fun h => absurd (by assumption) h) (by have := HL.out; omega) (by have := HL.out; omega)) (by have := HL.out; simp; omega) (by have := HL.out; simp; omega) hb1.size ?_
       intro v2 w2 ho2 hg2
       have hb2 := hb1.grown hg2 hb1.size (fun j hj => (ho1.block j hj).1)
       obtain ⟨A2, N2, c2, rfl⟩ : ∃ A n c, v2 = .slice A n c := by
         obtain ⟨A, c, e, _⟩ := ho2.form
         exact ⟨_, _, _, e⟩
       rw [HCX.out] at ho2
       have H2 := Lib.hid (HE.out w2 _ hb2 ho2)
       have c02 := (HB.out w2 hb2).c0
       have f02 := (HB.out w2 hb2).fr 0))
  all_goals
    first | go_end0 | refine bodyPost_ret (results_none rfl _ _ _) rfl ?_
    refine ⟨rfl, .slice A2 N2 c2, H2.out.1, H2.out.2.1, H2.out.2.2⟩
set_option maxHeartbeats 2000000 in
theorem qput_any (h : QI w base qb v st) (q : DName) (f : FD) (hn : st.fs.length ≤ 1000000) (hb : base ≤ w.heap.size) :
    Calls Try.prog 52 #[.pointer (some ⟨qb, 0, none⟩), .agg #[.string (str8 q), .string (str8 f.b), .int .i64 f.safe]] w (RowSaid w base qb st (insS q f st.fs)) := by
  obtain ⟨A, c, hv, hlc, hcm⟩ := h.row.form
  subst hv
  obtain ⟨g, hg1, hsh⟩ := h.row.shows
  obtain ⟨W, hW⟩ : ∃ W, W = w.alloc (.cells #[.string (str8 q), .string (str8 f.b), .int .i64 f.safe] 64) := ⟨_, rfl⟩
  have hbW : Below w.heap.size w W := by rw [hW]; exact below_boxK _ _
  have hsW : W.heap.size = w.heap.size + 1 := by rw [hW]; simp
  have hFB : W.heap[w.heap.size]? = some (.cells #[.string (str8 q), .string (str8 f.b), .int .i64 f.safe] 64 (0, 0)) := by rw [hW]; exact heap_alloc_new w _
  have HQ := Lib.hid (fun w1 (hb1 : Below W.heap.size W w1) => h.below (hbW.trans (hb1.mono (by omega))))
  have HF := Lib.hid (fun w1 (hb1 : Below W.heap.size W w1) => show w1.cell? ⟨w.heap.size, 0, none⟩ = some (.string (str8 q)) ∧ w1.cell? ⟨w.heap.size, 1, none⟩ = some (.string (str8 f.b)) ∧ w1.cell? ⟨w.heap.size, 2, none⟩ = some (.int .i64 f.safe) from by
    have e := (hb1.block w.heap.size (by omega)).trans hFB
    exact ⟨by rw [cell_of_row _ _ _ _ _ (0, 0) e]; rfl, by rw [cell_of_row _ _ _ _ _ (0, 0) e]; rfl, by rw [cell_of_row _ _ _ _ _ (0, 0) e]; rfl⟩)
  have HW := Lib.hid hW
  have HL := Lib.hid (And.intro hlc (And.intro hcm hn))
  have HX := Lib.hid (And.intro h (And.intro hb (And.intro hsh (And.intro hg1 (And.intro hbW hsW)))))
  clear h hb hsh hg1 hbW hW hFB
  have HSW := Lib.hid hsW
  clear hsW
  unfold RowSaid
  go_enter Try.func52, Try.ntmps52
  go_upto_region 1 with fail
  rw [← HW.out]
  go_upto_block 0 with fail
  go_cut [5] from 6 to 27 (fun i wx => ∃ j : Nat, j ≤ st.fs.length ∧ i = .int .i64 j ∧ Below W.heap.size W wx ∧ Hid (insS q f st.fs = st.fs.take j ++ (q, f) :: st.fs.drop j))
  case first =>
    go_wp2_with fail
    go_loopw [5] (fun i wr => ∃ j : Nat, j ≤ st.fs.length ∧ i = .int .i64 j ∧ Below W.heap.size W wr ∧ ∀ k (h : k < st.fs.length), k < j → st.fs[k].1 < q) (fun i _ => st.fs.length - (intOf i).toNat)
    case atStart => exact ⟨0, by omega, rfl, Below.refl _ _, fun k _ h => absurd h (by omega)⟩
    case round =>
      rename World => wr
      obtain ⟨j, hj, rfl, hbr, hlow⟩ := hrel
      have hqr := HQ.out wr hbr
      obtain ⟨p0, p1, p2⟩ := HF.out wr hbr
      have c0 := hqr.box.c0
      have HLT := Lib.hid (And.intro hj HL.out)
      clear HX
      by_cases hlt : j < st.fs.length
      · obtain ⟨b, c', hv, k0, krest⟩ := hqr.cells hlt
        clear krest
        simp only [Value.slice.injEq, true_and] at hv
        obtain ⟨rfl, rfl⟩ := hv
        have b1 : (j : Int) < (st.fs.length : Int) := by omega
        have k0' : wr.cell? ⟨b, j * 3, none⟩ = some (.string (str8 st.fs[j].1)) := k0
        have b3 : IntKind.i64.wrap ((j : Int) + 1) = (j : Int) + 1 := i64_id _ (by omega) (by have := HLT.out; omega)
        have hse : Op.bytesLess (str8 st.fs[j].1).toList (str8 q).toList = decide (st.fs[j].1 < q) := by rw [str8_toList, str8_toList]; exact bytesLess_eq _ _
        by_cases hq : st.fs[j].1 < q
        · have HN := Lib.hid (show ∀ k (h : k < st.fs.length), k < j + 1 → st.fs[k].1 < q from fun k hk hkj => by
            by_cases c : k < j
            · exact hlow k hk c
            · obtain rfl : k = j := by omega
              exact hq)
          clear hq hlow
          have ht : decide (st.fs[j].1 < q) = true := by have := HN.out j hlt (by omega); simpa using this
          rw [ht] at hse
          clear ht k0
          generalize st.fs[j].1 = y at *
          go_wp2_with fail
          go_quiet (fail)
          go_wp2_with fail
          go_roundw
          case rel => exact ⟨j + 1, by omega, by go_num, below_drewN hbr _, HN.out⟩
          case measure => simp [intOf]; omega
        · have hins := Lib.hid (insS_at (q := q) (v := f) (l := st.fs) (k := j) (fun k hk hkj => hlow k hk hkj) (fun _ => hq) hj)
          have ht : decide (st.fs[j].1 < q) = false := by simpa using hq
          rw [ht] at hse
          clear ht k0 hq hlow hqr
          generalize st.fs[j].1 = y at *
          go_wp2_with fail
          go_quiet (fail)
          go_wp2_with fail
          go_meet
          case rel => exact ⟨j, HLT.out.1, rfl, below_drewN hbr _, hins⟩
      · have b1 : ¬ j < st.fs.length := hlt
        have hins := Lib.hid (insS_at (q := q) (v := f) (l := st.fs) (k := j) (fun k hk hkj => hlow k hk hkj) (fun h => absurd h hlt) hj)
        clear hlow hqr
        go_wp2_with fail
        go_quiet (fail)
        go_wp2_with fail
        go_meet
        case rel => exact ⟨j, HLT.out.1, rfl, below_drewN hbr _, hins⟩
  case rest =>
    rename World => wr
    obtain ⟨j, hj, rfl, hbr, hinsH⟩ := hcut
    have hqr := HQ.out wr hbr
    obtain ⟨p0, p1, p2⟩ := HF.out wr hbr
    have c0 := hqr.box.c0
    have HLT := Lib.hid (And.intro hj HL.out)
    obtain ⟨h0, hb0, hsh, hg1, hbW, hsW⟩ := HX.out
    have hgl : 0 < st.fs.length → g < w.heap.size := fun hp => hsh.lt hp
    have HV := Lib.hid (fun w1 (hb1 : Below W.heap.size W w1) => show ShowsG fileC w1 g (.slice A j c) (st.fs.take j) ∧ (∀ (A' : Option Addr) (c' : Nat), (¬ c = j → A' = A.map (fun x => x.add (j * 3))) → st.fs.length - j ≤ c' → c' ≤ maxLen → ShowsG fileC w1 g (.slice A' (st.fs.length - j) c') (st.fs.drop j)) ∧ w.heap.size ≤ w1.heap.size from by
      have hb1' := hbW.trans (hb1.mono (by omega))
      have hs1 := hsh.keep hb1'.size fun hp => hb1'.block g (hgl hp)
      exact ⟨hs1.head hj, fun A' c' hA h1 h2 => hs1.tail' hj A' (fun h => hA (by have := HL.out; omega)) h1 h2, hb1'.size⟩)
    have HE := Lib.hid (fun w3 u (hb3 : Below W.heap.size W w3) (ho : OwnG fileC 64 w3 W.heap.size u (st.fs.take j ++ (q, f) :: st.fs.drop j)) => row_end h0 hb0 (hbW.trans (hb3.mono (by omega))) (ho.mono (by omega)))
    have bj1 : (j : Int) ≤ (st.fs.length : Int) := by have := HLT.out.1; omega
    have bj2 : (j : Int) ≤ (c : Int) := by have := HLT.out; omega
    rw [← hinsH.out] at HE
    clear h0 hb0 hsh hg1 hbW hsW hgl hqr hj HX
    go_wp2_with (first
      | (at_builtin
         refine wpList_appendG fileC _ rfl (.tmp 28) (.tmp 34) 51 rfl W.heap.size 64 (.agg #[.string ⟨#[]⟩, .string ⟨#[]⟩, .int .i64 0]) 40 Try.underlying51 infoFile rfl _ [] rfl (OwnG.nil_ _ _ _ _) g _ (st.fs.take j) rfl (HV.out _ hbr).1 (by have := HLT.out; simp; omega) (by have := HLT.out; simp; omega) hbr.size ?_
         intro v1 w1 ho1 hg1
         have hb1 := hbr.grown hg1 hbr.size (fun j hj => by cases hj)
         obtain ⟨s0, s1, s2⟩ := HF.out w1 hb1
         have H1 := HV.out w1 hb1
         rw [List.nil_append] at ho1)
      | (at_builtin
         refine wpList_appendG fileC _ rfl (.tmp 36) (.tmp 38) 51 rfl W.heap.size 64 (.agg #[.string ⟨#[]⟩, .string ⟨#[]⟩, .int .i64 0]) 40 Try.underlying51 infoFile rfl _ (st.fs.take j) rfl (ho1.alloc_ _) w1.heap.size _ [(q, f)] rfl (ShowsG.lit (C := fileC) (w := w1) [(q, f)] rfl (by simp [maxLen])) (by have := HLT.out; simp; omega) (by have := HLT.out; simp; omega) (by have := hb1.size; simp; omega) ?_
         intro v2 w2 ho2 hg2
         have hb2 := (hb1.alloc hb1.size _).grown hg2 (by simp; have := hb1.size; omega) (fun k hk => (ho1.block k hk).1)
         have H2 := HV.out w2 hb2
         have c02 := (HQ.out w2 hb2).box.c0)
      | (at_builtin
         refine wpList_appendG fileC _ rfl (.tmp 41) (.tmp 47) 51 rfl W.heap.size 64 (.agg #[.string ⟨#[]⟩, .string ⟨#[]⟩, .int .i64 0]) 40 Try.underlying51 infoFile rfl _ (st.fs.take j ++ [(q, f)]) rfl ho2 g _ (st.fs.drop j) rfl (H2.2.1 _ _ (by first | exact fun _ => rfl | exact fun h => if_neg h | exact fun h => absurd rfl h | exact fun h => absurd (by assumption) h | (intro h; simp [h, add_plain'])) (by have := HLT.out; omega) (by have := HLT.out; omega)) (by have := HLT.out; simp; omega) (by have := HLT.out; simp; omega) hb2.size ?_
         intro v3 w3 ho3 hg3
         have hb3 := hb2.grown hg3 hb2.size (fun k hk => (ho2.block k hk).1)
         obtain ⟨A3, N3, c3, rfl⟩ : ∃ A n c, v3 = .slice A n c := by
           obtain ⟨A, c, e, _⟩ := ho3.form
           exact ⟨_, _, _, e⟩
         have H3 := Lib.hid (HE.out w3 _ hb3 (by rw [List.append_assoc, List.singleton_append, ← hinsH.out] at ho3; exact ho3))
         have c03 := (HQ.out w3 hb3).box.c0
         have f03 := (HQ.out w3 hb3).box.fr 0))
    all_goals
      first | go_end0 | refine bodyPost_ret (results_none rfl _ _ _) rfl ?_
      refine ⟨rfl, .slice A3 N3 c3, H3.out.1, H3.out.2.1, H3.out.2.2⟩
end

end Go.Proofs.Ytngjmeohleoglaa
