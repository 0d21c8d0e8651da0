/-
  The contracts of slices.Clone at bytes and of disk's shorten.
  Conditions: none but sizes.
-/
import Derived.Test.YtngjmeohleoglaaDiD
import Derived.BigRegion
import Derived.WalkSpells
namespace Go.Proofs.Ytngjmeohleoglaa
open Go.RowKit
set_option linter.unusedVariables false
set_option linter.unusedSimpArgs false
set_option maxRecDepth 100000

theorem Own.litD {w : World} {e : TypeId} {cs : Array Value} {base : Nat} (l : List UInt8) (h : cs = (bs l).toArray) (hl : l.length ≤ maxLen) (hb : base ≤ w.heap.size) :
    Own e (w.alloc (.cells cs e)) base (.slice (some ⟨w.heap.size, 0, none⟩) l.length l.length) l := by
  subst h
  refine ⟨by simp [bs_length], .inr ⟨w.heap.size, _, _, rfl, hb, heap_alloc_new w _, Nat.le_refl _, hl, ?_, ?_⟩⟩
  · simp [bs_length]
  · have : (bs l).length = l.length := bs_length l
    rw [← this]
    simp

theorem clone8_any (v : Value) (d : Nat) (l : List UInt8) (w : World) (h : Shows w d v l) (hb : l.length ≤ 8796093022208) :
    Calls Try.prog 40 #[v] w fun e w' => ∃ v', e = .returned v' ∧ Own 5 w' w.heap.size v' l ∧ Below w.heap.size w w' := by
  have h' := h
  obtain ⟨A, c, rfl, hlc, hcm, _⟩ := h'
  rcases A with _ | a
  · have hl : l = [] := by
      rcases Nat.eq_zero_or_pos l.length with h0 | h0
      · exact List.eq_nil_of_length_eq_zero h0
      · obtain ⟨o, e, _⟩ := h.at_ h0
        cases e
    subst hl
    have hq := Lib.run_eql_slice_nil (P := Try.prog) w 66 5 none 0 c 0 0 Try.underlying66
    go_enter Try.func40, Try.ntmps40
    go_wp2_with fail
    go_ret
    exact ⟨_, rfl, Own.nil_ _ _ _, Below.refl _ _⟩
  · have hlit := Own.litD (e := 5) (w := w) (base := w.heap.size) (cs := #[]) [] (by simp [bs]) (by simp [maxLen]) (Nat.le_refl _)
    have hbA : Below w.heap.size w (w.alloc (Obj.cells #[] 5)) := (Below.refl _ _).alloc (Nat.le_refl _) _
    have hsh := h.keep hbA.size (fun hp => hbA.block d (h.lt hp))
    have hq := Lib.run_eql_slice_nil (P := Try.prog) w 66 5 (some a) l.length c 0 0 Try.underlying66
    go_enter Try.func40, Try.ntmps40
    go_wp2_with (at_builtin; refine wpList_append8 _ rfl (.tmp 5) (.tmp 6) 66 rfl w.heap.size 5 Try.underlying66 info5 _ [] rfl hlit d _ l rfl hsh (by simp; omega) (by simp) ?_; intro v1 w1 ho1 hg1)
    go_ret
    rw [List.nil_append] at ho1
    exact ⟨_, rfl, ho1, hbA.grown hg1 (by simp) (fun j hj => (hlit.block j hj).1)⟩

section
variable {w w' : World} {base nb mb : Nat} {st : DD} {X A B : List PF} {x : PF}
/-- What shorten leaves. -/
def ShortSaid (w : World) (base nb mb : Nat) (st : DD) (A B : List PF) (x : PF) (n : Nat) : Ending → World → Prop := fun e w' =>
  ∃ v', e = .returned (.tuple #[]) ∧ DiskI w' base nb mb (A ++ ⟨x.q, x.p, v', ⟨x.f.b.take n, min x.f.safe n⟩⟩ :: B) { st with fs := setS x.q ⟨x.f.b.take n, min x.f.safe n⟩ st.fs } ∧
    Mv (fun k => k = nb ∨ k = x.p) w w' ∧ ∀ k, v'.ownBlock = some k → w.heap.size ≤ k

theorem shorten_any (h : DiskI w base nb mb (A ++ x :: B) st) (hg : getA x.q st.fs = some x.f) (n : Nat) (hn : n ≤ x.f.b.length) (hl : x.f.b.length ≤ 1048576) (hu : usedL st.fs ≤ 9223372036854775807) (hbase : base ≤ w.heap.size) (hsf : x.f.safe ≤ 9223372036854775807) :
    Calls Try.prog 41 #[.pointer (some ⟨nb, 0, none⟩), .pointer (some ⟨x.p, 0, none⟩), .int .i64 n] w (ShortSaid w base nb mb st A B x n) := by
  have hx : x ∈ A ++ x :: B := by simp
  obtain ⟨f1, f2⟩ := h.file x hx
  obtain ⟨n1, n2, n3, n4, n5⟩ := h.pne hx
  obtain ⟨T, hT⟩ : ∃ T, T = x.f.b.take n := ⟨_, rfl⟩
  have hTl : T.length = n := by rw [hT]; simp; omega
  unfold ShortSaid
  rw [← hT]
  have hnd : (st.fs.map (·.1)).Nodup := by
    have := (h.perm.map (·.1)).nodup_iff.1 (by simpa [Dof, Function.comp_def] using h.nodup)
    exact this
  have hu1 := used_del hnd hg
  have hu2 : usedL (setS x.q ⟨T, min x.f.safe n⟩ st.fs) = n + usedL (delA x.q st.fs) := by rw [used_set]; simp [hTl]
  obtain ⟨u', hu'⟩ : ∃ u', u' = usedL (setS x.q ⟨T, min x.f.safe n⟩ st.fs) := ⟨_, rfl⟩
  obtain ⟨k, hk⟩ : ∃ k, k = x.f.b.length - n := ⟨_, rfl⟩
  have e1 : IntKind.i64.wrap ((x.f.b.length : Int) - (n : Int)) = (k : Int) := by rw [i64_id _ (by omega) (by omega)]; omega
  have e2 : IntKind.i64.wrap ((usedL st.fs : Int) - (k : Int)) = (u' : Int) := by rw [i64_id _ (by omega) (by omega)]; omega
  obtain ⟨g, hgb, _, hsh⟩ := f2.shows' hbase
  obtain ⟨Ad, c, hv, hlc, hcm⟩ := f2.form
  -- worlds
  obtain ⟨w1, hw1⟩ : ∃ w1, w1 = (w.setCell ⟨nb, 1, none⟩ (.int .i64 u')).drew := ⟨_, rfl⟩
  have b1 : BoxD w1 nb st.room u' mb st.fuse st.down := by rw [hw1]; exact h.box.set1 u'
  have k1 : ∀ j, j ≠ nb → w1.heap[j]? = w.heap[j]? := fun j hj => by rw [hw1]; exact heap_setCell_other _ _ _ _ hj
  have f1' : BoxI w1 x.p x.v x.f.safe := (k1 _ n1).trans f1
  have hs1 : w1.heap.size = w.heap.size := by rw [hw1]; simp
  have hsh1 : Shows w1 g x.v x.f.b := hsh.keep (by omega) fun hp => k1 g (fun e => by
    subst e
    obtain ⟨o, e3, _⟩ := (hv ▸ hsh : Shows w g (.slice Ad x.f.b.length c) x.f.b).at_ hp
    rw [hv, e3] at n3
    exact n3 rfl)
  have hm1 : Mv (fun k => k = nb ∨ k = x.p) w w1 := by rw [hw1]; exact ((Mv.refl _ _).setCell (fun _ => .inl rfl) _ _).drew
  have HC := Lib.hid (fun v' (e : v' = .slice Ad n c) => clone8_any v' g (T) w1 (by rw [e]; exact (hv ▸ hsh1 : Shows w1 g (.slice Ad x.f.b.length c) x.f.b).head hn |> (hT ▸ ·)) (by omega))
  have HR := Lib.hid (fun v' w2 (ho : Own 5 w2 w1.heap.size v' (T)) (hb2 : Below w1.heap.size w1 w2) =>
    show DiskI ((w2.setCell ⟨x.p, 0, none⟩ v').setCell ⟨x.p, 1, none⟩ (.int .i64 (min x.f.safe n : Nat))) base nb mb (A ++ ⟨x.q, x.p, v', ⟨T, min x.f.safe n⟩⟩ :: B) { st with fs := setS x.q ⟨T, min x.f.safe n⟩ st.fs } ∧
      BoxI w2 x.p x.v x.f.safe ∧ BoxI (w2.setCell ⟨x.p, 0, none⟩ v') x.p v' x.f.safe ∧
      Mv (fun k => k = nb ∨ k = x.p) w ((w2.setCell ⟨x.p, 0, none⟩ v').setCell ⟨x.p, 1, none⟩ (.int .i64 (min x.f.safe n : Nat))) ∧ ∀ k, v'.ownBlock = some k → w.heap.size ≤ k from by
    have p2 : BoxI w2 x.p x.v x.f.safe := (hb2.block _ f1'.lt).trans f1'
    have p3 := p2.set0 v'
    have p4 := p3.set1 (min x.f.safe n)
    have hne : ∀ j, j ≠ x.p → ((w2.setCell ⟨x.p, 0, none⟩ v').setCell ⟨x.p, 1, none⟩ (.int .i64 (min x.f.safe n : Nat))).heap[j]? = w2.heap[j]? := fun j hj => by
      rw [heap_setCell_other _ _ _ _ hj, heap_setCell_other _ _ _ _ hj]
    have hvp : v'.ownBlock ≠ some x.p := own8_neD ho p2 (by decide)
    refine ⟨?_, p2, p3, ?_, fun k hk => by have := (ho.block k hk).1; omega⟩
    · refine h.upd v' ⟨T, min x.f.safe n⟩ p4 ((ho.keep fun j hj => hne j (fun e => hvp (by rw [hj, e]))).mono (by omega)) (fun k hk => .inr (by have := (ho.block k hk).1; omega)) ?_ ?_
      · rw [← hu']
        refine (hne nb n1.symm).trans ?_
        exact (hb2.block _ b1.lt).trans b1
      · intro j hj hjn hjp _
        exact (hne j hjp).trans ((hb2.block j (by omega)).trans (k1 j hjn))
    · exact ((hm1.trans (Mv.of_below (F := fun _ => False) hb2) (fun _ _ e => e.elim)).setCell (fun _ => .inr rfl) _ _).setCell (fun _ => .inr rfl) _ _)
  have c1 : w.drew.cell? ⟨nb, 1, none⟩ = some (.int .i64 (usedL st.fs)) := h.box.c1
  have cp : w.drew.cell? ⟨x.p, 0, none⟩ = some (.slice Ad x.f.b.length c) := by rw [← hv]; exact f1.c0
  have fr1 := h.box.fr 1
  have cp1 : w1.cell? ⟨x.p, 0, none⟩ = some (.slice Ad x.f.b.length c) := by rw [← hv]; exact f1'.c0
  have HW := Lib.hid hw1
  have HT := Lib.hid hTl
  clear hTl hT
  have bn1 : (n : Int) ≤ (x.f.b.length : Int) := by omega
  have bn2 : (n : Int) ≤ (c : Int) := by omega
  clear hu hu1 hu2 hu' hk hn hl hgb hsh hsh1 hv hlc hm1 f1 f1' b1 k1 hs1 hnd hw1 f2 hg h
  go_enter Try.func41, Try.ntmps41
  go_wp2_with fail
  go_region
  rw [← HW.out]
  clear c1 cp fr1
  go_wp2_with (go_at_call 40
               refine (HC.out _ rfl).mono ?_
               rintro e w2 ⟨v2, rfl, ho2, hb2⟩
               obtain ⟨A2, x2, hv2, _, _⟩ := ho2.form
               rw [HT.out] at hv2
               subst hv2
               have H2 := Lib.hid (HR.out _ w2 ho2 hb2)
               have d0 := H2.out.2.1.c0
               have g0 := H2.out.2.1.fr 0
               have d1 := H2.out.2.2.1.c1
               have g1 := H2.out.2.2.1.fr 1
               clear HR HC)
  all_goals
    first | go_end0 | refine bodyPost_ret (results_none rfl _ _ _) rfl ?_
    have H := H2.out
    refine ⟨rfl, .slice A2 n x2, ?_⟩
    first
    | (have e : min x.f.safe n = x.f.safe := by omega
       rw [e] at H ⊢
       exact ⟨H.1, H.2.2.2.1, H.2.2.2.2⟩)
    | (have e : min x.f.safe n = n := by omega
       rw [e] at H ⊢
       exact ⟨H.1, H.2.2.2.1, H.2.2.2.2⟩)
end

end Go.Proofs.Ytngjmeohleoglaa
