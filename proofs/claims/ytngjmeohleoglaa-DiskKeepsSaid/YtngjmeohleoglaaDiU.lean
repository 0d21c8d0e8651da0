/-
  The contract of disk's Wake.
  Conditions: none but sizes.
-/
import Derived.Test.YtngjmeohleoglaaDiT
import Derived.Test.YtngjmeohleoglaaDiL
namespace Go.Proofs.Ytngjmeohleoglaa
open Go.RowKit Go.Shelf
set_option linter.unusedVariables false
set_option linter.unusedSimpArgs false
set_option maxRecDepth 100000

/-- Whole numbers, one cell each. -/
def intC : Code Int := { enc := fun n => [.int .i64 n], sz := 1, len := fun _ => rfl, one := fun x u hu => by simp at hu; subst hu; rfl, pos := by omega }

/-! The first j files are woken. -/
def wakeTo (keep : List Int) (j : Nat) (l : DRow) : DRow := l.mapIdx fun i x => if i < j then (x.1, wakeF keep i x.2) else x
theorem wakeTo_zero (keep : List Int) (l : DRow) : wakeTo keep 0 l = l := by
  unfold wakeTo
  apply List.ext_getElem?
  intro i
  simp
theorem wakeTo_all (keep : List Int) (l : DRow) : wakeTo keep l.length l = wakeL keep l := by
  unfold wakeTo wakeL
  apply List.ext_getElem?
  intro i
  simp only [List.getElem?_mapIdx]
  cases h : l[i]? with
  | none => rfl
  | some x =>
    have : i < l.length := (List.getElem?_eq_some_iff.1 h).1
    simp [this]
theorem wakeTo_length (keep : List Int) (j : Nat) (l : DRow) : (wakeTo keep j l).length = l.length := by simp [wakeTo]
theorem wakeTo_names (keep : List Int) (j : Nat) (l : DRow) : (wakeTo keep j l).map (·.1) = l.map (·.1) := by
  unfold wakeTo
  apply List.ext_getElem?
  intro i
  simp only [List.getElem?_map, List.getElem?_mapIdx]
  cases l[i]? with
  | none => rfl
  | some x => by_cases h : i < j <;> simp [h]
theorem wakeTo_rising {keep : List Int} {j : Nat} {l : DRow} (h : Rising l) : Rising (wakeTo keep j l) := by unfold Rising; rw [wakeTo_names]; exact h
theorem wakeTo_at {keep : List Int} {j : Nat} {l : DRow} {x : DName × FD} (h : l[j]? = some x) : (wakeTo keep j l)[j]? = some x := by simp [wakeTo, h]
theorem wakeTo_succ {keep : List Int} {j : Nat} {l : DRow} {q : DName} {f : FD} (hr : Rising l) (h : l[j]? = some (q, f)) : wakeTo keep (j + 1) l = setS q (wakeF keep j f) (wakeTo keep j l) := by
  rw [← set_at (wakeTo_rising hr) (wakeTo_at h)]
  apply List.ext_getElem?
  intro i
  rw [List.getElem?_set]
  by_cases e : j = i
  · subst e
    have hl : j < (wakeTo keep j l).length := by rw [wakeTo_length]; exact (List.getElem?_eq_some_iff.1 h).1
    rw [if_pos rfl, if_pos hl]
    simp [wakeTo, h]
  · rw [if_neg e]
    simp only [wakeTo, List.getElem?_mapIdx]
    cases l[i]? with
    | none => rfl
    | some y =>
      simp only [Option.map_some]
      by_cases h1 : i < j
      · rw [if_pos (by omega), if_pos h1]
      · rw [if_neg (by omega), if_neg h1]
theorem delA_setS (q : DName) (v : FD) (l : DRow) : (delA q (setS q v l)).Perm (delA q l) := by
  refine (delA_perm (setS_perm q v l)).trans ?_
  have : delA q ((q, v) :: delA q l) = delA q (delA q l) := by unfold delA; rw [List.filter_cons, if_neg (by simp)]
  rw [this, delA_none delA_ne]
theorem setS_setS {q : DName} {u v : FD} {l : DRow} (h : Rising l) : setS q v (setS q u l) = setS q v l :=
  Rising.eq h.set.set h.set ((setS_perm _ _ _).trans (((delA_setS q u l).cons _).trans (setS_perm _ _ _).symm))
theorem getA_setS {q : DName} {v : FD} {l : DRow} (h : Rising l) : getA q (setS q v l) = some v := getA_of_mem h.set.nodup (mem_setS.2 (.inl rfl))

section
variable {w w' : World} {base nb mb n : Nat} {F : Nat → Prop} {st : DD} {X A B : List PF} {x : PF} {d : Value}
theorem DiskI.safeTo (h : DiskI w base nb mb (A ++ x :: B) st) (hg : getA x.q st.fs = some x.f) (k : Nat) :
    DiskI (w.setCell ⟨x.p, 1, none⟩ (.int .i64 k)) base nb mb (A ++ ⟨x.q, x.p, x.v, ⟨x.f.b, k⟩⟩ :: B) { st with fs := setS x.q ⟨x.f.b, k⟩ st.fs } := by
  have hx : x ∈ A ++ x :: B := by simp
  obtain ⟨f1, f2⟩ := h.file x hx
  obtain ⟨n1, n2, n3, n4, n5⟩ := h.pne hx
  have hne : ∀ j, j ≠ x.p → (w.setCell ⟨x.p, 1, none⟩ (.int .i64 k)).heap[j]? = w.heap[j]? := fun j hj => heap_setCell_other _ _ _ _ hj
  have hu : usedL (setS x.q ⟨x.f.b, k⟩ st.fs) = usedL st.fs := by have := used_del h.rising hg; rw [used_set]; simp only; omega
  refine h.upd x.v ⟨x.f.b, k⟩ (f1.set1 _) (f2.keep fun g hg' => hne g (fun e => n5 (by rw [hg', e]))) (fun k hk => .inl hk) ?_ fun j hj _ hjp _ => hne j hjp
  rw [hu]
  exact (hne nb n1.symm).trans h.box

theorem wake_dead (h : DeadD w d) (v : Value) : Calls Try.prog 16 #[d, v] w fun e w' => e = .returned (.tuple #[]) ∧ w' = w := by
  have HC := Lib.hid (made_dead h)
  go_enter Try.func16, Try.ntmps16
  go_wp2_with (go_at_call 39; refine HC.out.mono ?_; rintro e w1 ⟨rfl, rfl⟩)
  first | go_end0 | refine bodyPost_ret (results_none rfl _ _ _) rfl ?_
  exact ⟨rfl, rfl⟩
theorem wake_up (h : BoxD w nb n base mb x.p false) (v : Value) : Calls Try.prog 16 #[.pointer (some ⟨nb, 0, none⟩), v] w fun e w' => e = .returned (.tuple #[]) ∧ w' = w := by
  have HC := Lib.hid (made_any h)
  have c4 := h.c4
  go_enter Try.func16, Try.ntmps16
  go_wp2_with (go_at_call 39; refine HC.out.mono ?_; rintro e w1 ⟨rfl, rfl⟩)
  first | go_end0 | refine bodyPost_ret (results_none rfl _ _ _) rfl ?_
  exact ⟨rfl, rfl⟩

theorem wake_nums {fl sf m : Nat} {kv : Int} (h1 : sf ≤ fl) (h2 : fl ≤ 1048576) (hm : m = sf + min kv.toNat (fl - sf)) : ∃ L Z : Nat, IntKind.i64.wrap ((fl : Int) - (sf : Int)) = (L : Int) ∧ wrap64 ((fl : Int) - (sf : Int)) = (L : Int) ∧ wrap64 (m : Int) = (m : Int) ∧ (IntKind.i64.wrap ((sf : Int) + (Z : Int)) = (m : Int) ∧ wrap64 ((sf : Int) + (Z : Int)) = (m : Int)) ∧ m = sf + Z ∧ Z = min kv.toNat L :=
  ⟨fl - sf, min kv.toNat (fl - sf), by rw [i64_id _ (by omega) (by omega)]; omega, by rw [w64_id _ (by omega) (by omega)]; omega, by rw [w64_id _ (by omega) (by omega)], ⟨by rw [i64_id _ (by omega) (by omega)]; omega, by rw [w64_id _ (by omega) (by omega)]; omega⟩, hm, rfl⟩
theorem wake_min {kv : Int} {L Z : Nat} (h : Z = min kv.toNat L) : min (max kv 0) (L : Int) = (Z : Int) := by omega
/-- Wake on its way. -/
structure WakeR (w0 : World) (base nb mb : Nat) (X0 : List PF) (st : DD) (keep : List Int) (vk : Value) (dk : Nat) (names : Value) (j : Nat) (w : World) : Prop where
  disk : ∃ X, DiskI w base nb mb X { room := st.room, fuse := st.fuse, down := false, fs := wakeTo keep j st.fs } ∧ ∀ k, footD nb mb X k → footD nb mb X0 k ∨ w0.heap.size ≤ k
  mv : Mv (fun k => footD nb mb X0 k ∨ w0.heap.size ≤ k) w0 w
  row : OwnG nameC 9 w w0.heap.size names (st.fs.map (·.1))
  ask : ShowsG intC w dk vk keep
  used : usedL (wakeTo keep j st.fs) ≤ usedL st.fs

theorem WakeR.next {w0 : World} {X0 : List PF} {keep : List Int} {vk names : Value} {dk j : Nat} (R : WakeR w0 base nb mb X0 st keep vk dk names j w) (hr : Rising st.fs) (h0 : DiskI w0 base nb mb X0 st) (hdk : ∀ k, footD nb mb X0 k → k ≠ dk) (hdl : 0 < keep.length → dk < w0.heap.size) (hb : base ≤ w0.heap.size) {q : DName} {f : FD} (hjf : st.fs[j]? = some (q, f)) (hsf : f.safe ≤ f.b.length) {w5 : World} {v' : Value} {p : Nat}
    (hx : x.q = q) (hfx : x.f = f) (hfoot : ∀ k, footD nb mb (A ++ x :: B) k → footD nb mb X0 k ∨ w0.heap.size ≤ k) (hI : DiskI w base nb mb (A ++ x :: B) { room := st.room, fuse := st.fuse, down := false, fs := wakeTo keep j st.fs })
    (h5 : ShortSaid w base nb mb { room := st.room, fuse := st.fuse, down := false, fs := wakeTo keep j st.fs } A B x (f.safe + keepN keep j f) (.returned (.tuple #[])) w5) :
    ∃ A1 c1, BoxI w5 x.p (.slice A1 (f.safe + keepN keep j f) c1) (min f.safe (f.safe + keepN keep j f)) ∧ WakeR w0 base nb mb X0 st keep vk dk names (j + 1) (w5.setCell ⟨x.p, 1, none⟩ (.int .i64 (f.safe + keepN keep j f : Nat))) := by
  obtain ⟨v5, _, hI5, hm5, hv5⟩ := h5
  subst hx
  subst hfx
  have hle : x.f.safe + keepN keep j x.f ≤ x.f.b.length := by
    unfold keepN
    split <;> omega
  generalize hnn : x.f.safe + keepN keep j x.f = m at *
  have hmin : min x.f.safe m = x.f.safe := by omega
  have hx5 : (⟨x.q, x.p, v5, ⟨x.f.b.take m, min x.f.safe m⟩⟩ : PF) ∈ A ++ ⟨x.q, x.p, v5, ⟨x.f.b.take m, min x.f.safe m⟩⟩ :: B := by simp
  have hf5 := hI5.file _ hx5
  obtain ⟨A1, c1, hv, _, _⟩ := hf5.2.form
  simp only at hv hf5
  have hlen : (x.f.b.take m).length = m := by simp; omega
  rw [hlen] at hv
  have hrj := wakeTo_rising (keep := keep) (j := j) hr
  have hg5 : getA x.q (setS x.q ⟨x.f.b.take m, min x.f.safe m⟩ (wakeTo keep j st.fs)) = some ⟨x.f.b.take m, min x.f.safe m⟩ := getA_setS hrj
  have hI6 := DiskI.safeTo (x := ⟨x.q, x.p, v5, ⟨x.f.b.take m, min x.f.safe m⟩⟩) hI5 hg5 m
  simp only [setS_setS hrj] at hI6
  have hwf : wakeF keep j x.f = ⟨x.f.b.take m, m⟩ := by unfold wakeF; rw [hnn]
  have hsucc := wakeTo_succ (keep := keep) hr hjf
  rw [hwf] at hsucc
  have hxX : footD nb mb (A ++ x :: B) x.p := .inr (.inr ⟨x, by simp, .inl rfl⟩)
  have hlt := R.mv.size
  have hnbX : footD nb mb X0 nb := .inl rfl
  refine ⟨A1, c1, by rw [← hv]; exact hf5.1, ⟨⟨_, by rw [hsucc]; exact hI6, fun k hk => ?_⟩, ?_, ?_, ?_, ?_⟩⟩
  · rcases hk with rfl | rfl | ⟨y, hy, hk⟩
    · exact .inl (.inl rfl)
    · exact .inl (.inr (.inl rfl))
    · rcases List.mem_append.1 hy with hy | hy
      · exact hfoot k (.inr (.inr ⟨y, by simp [hy], hk⟩))
      · rcases List.mem_cons.1 hy with rfl | hy
        · rcases hk with hk | hk
          · exact hfoot k (.inr (.inr ⟨x, by simp, .inl hk⟩))
          · have := hv5 k hk; exact .inr (by omega)
        · exact hfoot k (.inr (.inr ⟨y, by simp [hy], hk⟩))
  · exact (R.mv.trans hm5 fun k _ e => by
      rcases e with rfl | rfl
      · exact .inl (.inl rfl)
      · exact hfoot _ hxX).setCell (fun _ => hfoot _ hxX) _ _
  · refine R.row.keep fun g hg => ?_
    have hgb := R.row.block g hg
    have h1 : g ≠ nb := by have := h0.box.lt; omega
    have h2 : g ≠ x.p := fun e => by
      obtain ⟨z1, z2⟩ := hI.file x (by simp)
      rcases R.row.2 with ⟨e1, _⟩ | ⟨g2, cap, cur, e1, _, hg2, _⟩
      · rw [e1] at hg; cases hg
      · rw [e1] at hg
        have : g2 = g := by simpa [Value.ownBlock] using hg
        subst this
        rw [e] at hg2
        unfold BoxI at z1
        rw [z1] at hg2
        injection hg2 with hg2
        injection hg2 with _ h4 _
        exact absurd h4 (by decide)
    rw [heap_setCell_other _ _ _ _ h2]
    exact hm5.block g hgb.2 (by rintro (e | e); exact h1 e; exact h2 e)
  · refine R.ask.keep (Nat.le_trans hm5.size (by simp)) fun hp => ?_
    have hl := hdl hp
    have h1 : dk ≠ nb := fun e => hdk nb hnbX e.symm
    have h2 : dk ≠ x.p := fun e => by
      rcases hfoot _ hxX with h3 | h3
      · exact hdk _ h3 e.symm
      · omega
    rw [heap_setCell_other _ _ _ _ h2]
    exact hm5.block dk (R.ask.lt hp) (by rintro (e | e); exact h1 e; exact h2 e)
  · have h1 := R.used
    have h2 := used_del hrj.nodup (getA_of_mem hrj.nodup (List.mem_of_getElem? (wakeTo_at (keep := keep) hjf)))
    rw [hsucc, used_set]
    simp only [hlen]
    omega

set_option maxHeartbeats 2000000 in
theorem wake_any (h : DiskM w base nb st F) (hF : F nb) (hb : base ≤ w.heap.size) (hwf : DWf n st) (hn : n ≤ 1000000) (keep : List Int) (vk : Value) (dk : Nat) (hk : ShowsG intC w dk vk keep) (hdk : ¬ F dk) (hkl : keep.length ≤ 140737488355328) (hd : st.down = true) :
    Calls Try.prog 16 #[.pointer (some ⟨nb, 0, none⟩), vk] w fun e w' => e = .returned (.tuple #[]) ∧ AtD w base nb F (wakeD st keep) w' := by
  have h' := h
  obtain ⟨⟨mb, X, hI, hfoot⟩, hlow⟩ := h'
  obtain ⟨Ak, ck, rfl, hkc, hkm⟩ := hk.form
  have hne : ∀ k, k ≠ nb → (w.setCell ⟨nb, 4, none⟩ (.bool false)).heap[k]? = w.heap[k]? := fun k hk => heap_setCell_other _ _ _ _ hk
  have hI1 := hI.setDown false
  have hsz1 : (w.setCell ⟨nb, 4, none⟩ (.bool false)).heap.size = w.heap.size := by simp
  have HL := Lib.hid (list_any (w := w.setCell ⟨nb, 4, none⟩ (.bool false)) hI1 hwf.rising (by have := hwf.count; show st.fs.length ≤ _; omega) (fun x hx => by
    have : (x.q, x.f) ∈ st.fs := hI.perm.mem_iff.1 (List.mem_map.2 ⟨x, hx, rfl⟩)
    have := (hwf.each _ this).1
    simp only at this
    omega))
  have HM := Lib.hid (made_any hI.box)
  have c4 := hI.box.c4
  rw [hd] at c4
  have f4 := hI.box.fr 4
  have HSTART := Lib.hid (fun v w1 (ho : OwnG nameC 9 w1 (w.setCell ⟨nb, 4, none⟩ (.bool false)).heap.size v (st.fs.map (·.1))) (hb1 : Below (w.setCell ⟨nb, 4, none⟩ (.bool false)).heap.size (w.setCell ⟨nb, 4, none⟩ (.bool false)) w1) =>
    show WakeR w base nb mb X st keep (.slice Ak keep.length ck) dk v 0 w1 from
    ⟨⟨X, by
        rw [wakeTo_zero]
        exact hI1.keep fun k hk => hb1.block k (by rw [hsz1]; exact hI.lt k hk), fun k hk => .inl hk⟩,
      ((Mv.refl _ w).setCell (fun _ => .inl (.inl rfl)) _ _).trans (F1 := fun _ => False) (Mv.of_below hb1) (fun _ _ e => e.elim),
      by rw [hsz1] at ho; exact ho,
      (hk.keep (by simp) fun hp => hne dk (fun e => hdk (e ▸ hF))).keep hb1.size fun hp => hb1.block dk (by rw [hsz1]; exact hk.lt hp),
      by rw [wakeTo_zero]; exact Nat.le_refl _⟩)
  have hcount := hwf.count
  have HALL := Lib.hid (And.intro h (And.intro hb (And.intro hfoot (And.intro hwf (And.intro hlow hI)))))
  have HD := Lib.hid hd
  have hdl : 0 < keep.length → dk < w.heap.size := fun hp => hk.lt hp
  clear hI1 hk hI h hlow hfoot hwf hd hne hsz1 hb
  go_enter Try.func16, Try.ntmps16
  go_wp2_with (first
    | (go_at_call 39; refine HM.out.mono ?_; rintro e w1 ⟨rfl, rfl⟩)
    | (go_at_call 17; refine HL.out.mono ?_; rintro e w2 ⟨vn, rfl, ho2, hb2⟩; have HW2 := Lib.hid (HSTART.out _ w2 ho2 hb2); obtain ⟨An, cn, hvn, _, _⟩ := ho2.form; rw [List.length_map] at hvn; subst hvn; clear ho2 hb2))
  have hmm : ∀ a b : Nat, a < b → (a : Int) < (b : Int) := fun a b h => by omega
  go_loopw [24] (fun i wr => ∃ j : Nat, j ≤ st.fs.length ∧ i = .int .i64 j ∧ WakeR w1 base nb mb X st keep (.slice Ak keep.length ck) dk (.slice An st.fs.length cn) j wr) (fun i _ => st.fs.length - (intOf i).toNat)
  case atStart => exact ⟨0, by omega, rfl, HW2.out⟩
  case round =>
    rename World => wr
    obtain ⟨j, hj, rfl, R⟩ := hrel
    obtain ⟨h, hb, hfoot, hwf, hlow, hI0⟩ := HALL.out
    by_cases hjl : j < st.fs.length
    · obtain ⟨⟨q, f⟩, hqf⟩ : ∃ y, st.fs[j]? = some y := ⟨_, List.getElem?_eq_getElem hjl⟩
      obtain ⟨⟨X', hI, hft⟩, _, _, _, _⟩ := id R
      have hrj := wakeTo_rising (keep := keep) (j := j) hwf.rising
      have hgf : getA q (wakeTo keep j st.fs) = some f := getA_of_mem hrj.nodup (List.mem_of_getElem? (wakeTo_at hqf))
      obtain ⟨A, x, B, rfl, hxq, hxf, hxg⟩ := getA_Lof_some hI.nodup ((hI.get q).trans hgf)
      obtain ⟨hq40, hfl, hfs⟩ := hwf.each _ (List.mem_of_getElem? hqf)
      simp only at hq40 hfl hfs
      have hlook := hI.map.look1 Try.underlying48 (q := q) (show q.length ≤ 140737488355328 by omega) (zeroFile wr)
      rw [hxg] at hlook
      have hlook' : (Instr.lookup 48 (.map (some mb)) (.string (str8 q)) false).run Try.prog wr = .ok (.pointer (some ⟨x.p, 0, none⟩)) wr := hlook
      have hrow := R.row
      rw [show (Value.slice An st.fs.length cn) = Value.slice An st.fs.length cn from rfl] at hrow
      obtain ⟨nbk, rfl, _, _, _, hcells⟩ := hrow.at_ (by omega)
      have hcell : wr.cell? ⟨nbk, j, none⟩ = some (.string (str8 q)) := by
        have := hcells j (by simpa using hjl) 0 (by simp [nameC])
        have e : (st.fs.map (·.1))[j]'(by simpa using hjl) = q := by
          rw [List.getElem_map]
          have := List.getElem?_eq_getElem hjl
          rw [this] at hqf
          injection hqf with hqf
          rw [hqf]
        rw [e] at this
        simpa [nameC] using this
      have c2 := hI.box.c2
      have b1 : (j : Int) < (st.fs.length : Int) := by omega
      have b1' : j < st.fs.length := hjl
      have bw : IntKind.i64.wrap ((j : Int) + 1) = (j : Int) + 1 := i64_id _ (by omega) (by omega)
      obtain ⟨p1, p2⟩ := hI.file x (by simp)
      obtain ⟨Ax, cx, hv, _, _⟩ := p2.form
      have k0 : wr.cell? ⟨x.p, 0, none⟩ = some (.slice Ax f.b.length cx) := by rw [← hxf, ← hv]; exact p1.c0
      have k1 : wr.cell? ⟨x.p, 1, none⟩ = some (.int .i64 f.safe) := by rw [← hxf]; exact p1.c1
      obtain ⟨m, hm⟩ : ∃ m, m = f.safe + keepN keep j f := ⟨_, rfl⟩
      have hmle : m ≤ f.b.length := by rw [hm]; unfold keepN; split <;> omega
      have hused := R.used
      have hu1 := hwf.used
      have hu2 := hwf.room
      have hIW : ∀ W', (W' = wr ∨ ∃ q, W' = wr.drewN q) → DiskI W' base nb mb (A ++ x :: B) { room := st.room, fuse := st.fuse, down := false, fs := wakeTo keep j st.fs } := by
        rintro W' (rfl | ⟨q, rfl⟩)
        · exact hI
        · exact hI.keep fun _ _ => rfl
      have hRW : ∀ W', (W' = wr ∨ ∃ q, W' = wr.drewN q) → WakeR w1 base nb mb X st keep (.slice Ak keep.length ck) dk (.slice (some ⟨nbk, 0, none⟩) st.fs.length cn) j W' := by
        rintro W' (rfl | ⟨q, rfl⟩)
        · exact R
        · exact ⟨⟨_, hI.keep (w' := wr.drewN q) fun _ _ => rfl, hft⟩, R.mv.drewN q, R.row.keep fun _ _ => rfl, R.ask.drewN q, R.used⟩
      have hsW : ∀ W', (W' = wr ∨ ∃ q, W' = wr.drewN q) → W'.heap.size = wr.heap.size := by
        rintro W' (rfl | ⟨q, rfl⟩) <;> rfl
      have HSH := Lib.hid (fun W' (e : W' = wr ∨ ∃ q, W' = wr.drewN q) => (shorten_any (hIW W' e) (by rw [hxq, hxf]; exact hgf) m (by rw [hxf]; exact hmle) (by rw [hxf]; exact hfl) (by show usedL (wakeTo keep j st.fs) ≤ _; omega) (by have := R.mv.size; have := hsW W' e; omega) (by rw [hxf]; omega)))
      have HNX := Lib.hid (fun W' (e : W' = wr ∨ ∃ q, W' = wr.drewN q) w5 (h5 : ShortSaid W' base nb mb { room := st.room, fuse := st.fuse, down := false, fs := wakeTo keep j st.fs } A B x m (.returned (.tuple #[])) w5) => (hRW W' e).next hwf.rising hI0 (fun k hk e => hdk (e ▸ hfoot k hk)) hdl hb hqf hfs (v' := .bool true) (p := 0) hxq hxf hft (hIW W' e) (by rw [← hm]; exact h5))
      rw [← hm] at HNX
      have HM2 := Lib.hid hm
      by_cases hjk : j < keep.length
      · obtain ⟨dkb, hAk, _, hkcell⟩ := R.ask.at_ (by omega)
        subst hAk
        obtain ⟨kv, hkv⟩ : ∃ y, keep[j]? = some y := ⟨_, List.getElem?_eq_getElem hjk⟩
        have hkc0 : wr.cell? ⟨dk, dkb + j, none⟩ = some (.int .i64 kv) := by
          have := hkcell j hjk 0 (by simp [intC])
          have e : keep[j] = kv := by
            have := List.getElem?_eq_getElem hjk
            rw [this] at hkv
            injection hkv
          rw [e] at this
          simpa [intC] using this
        have b2 : decide (j < keep.length) = true := by simpa using hjk
        have b3 : (j : Int) < (keep.length : Int) := by omega
        have hm00 : m = f.safe + min kv.toNat (f.b.length - f.safe) := by rw [hm]; unfold keepN; rw [hkv]
        obtain ⟨L, Z, e1, e1', bs, bz, hm1, hZ⟩ := wake_nums hfs hfl hm00
        clear hm00
        have HZ := Lib.hid (And.intro hZ (And.intro hm1 (And.intro bz bs)))
        have HJ := Lib.hid (And.intro hj (And.intro hjl (And.intro bw bs)))
        clear hm hjk hIW hRW hsW h hb hfoot hwf hlow hI0 hI hft R hrj hgf hxg hlook hrow hcells p1 p2 hv hxq hxf hqf hjl hj hq40 hfl hfs hmle hused hu1 hu2 HALL hm1 bz bs hZ hkv hkcell
        go_upto_region 8 with fail
        go_cut [7] from 39 to 54 (fun z wx => z = .int .i64 Z ∧ ∃ q, wx = wr.drewN q)
        case first =>
          go_quiet (fail)
          go_wp2_with fail
          go_meet
          exact ⟨by rw [wake_min HZ.out.1], _, rfl⟩
        case rest =>
          obtain ⟨rfl, qn, rfl⟩ := hcut
          have bz := HZ.out.2.2.1.1
          have bz' := HZ.out.2.2.1.2
          have bs := HJ.out.2.2.2
          have bw := HJ.out.2.2.1
          go_wp2_with (go_at_call 41
                       with_reducible refine (HSH.out _ (.inr ⟨_, rfl⟩)).mono ?_
                       rintro e w5 ⟨v5, rfl, hs5⟩
                       obtain ⟨A1, c1, hbi, RN⟩ := HNX.out _ (.inr ⟨_, rfl⟩) w5 ⟨v5, rfl, hs5⟩
                       have d0 := hbi.c0
                       have d1 := hbi.c1
                       have g1 := hbi.fr 1
                       have HRN := Lib.hid RN
                       clear hbi RN hs5 HSH HNX)
          have hj := HJ.out.1
          have hjl := HJ.out.2.1
          go_roundw
          case rel => exact ⟨j + 1, by omega, by go_num, HRN.out⟩
          case measure => simp [intOf]; omega
      · have b2 : decide (j < keep.length) = false := by simpa using hjk
        have hm0 : m = f.safe := by rw [hm]; unfold keepN; rw [List.getElem?_eq_none (by omega)]; simp
        have bs : wrap64 (m : Int) = (m : Int) := w64_id _ (by omega) (by omega)
        have bs' : f.safe = m := hm0.symm
        clear hm hm0 hjk hIW hRW hsW h hb hfoot hwf hlow hI0 hI hft R hrj hgf hxg hlook hrow hcells p1 p2 hv hxq hxf hqf hjl hj hq40 hfl hfs hmle hused hu1 hu2 HALL
        go_wp2_with (go_at_call 41
                     refine (HSH.out _ (.inl rfl)).mono ?_
                     rintro e w5 ⟨v5, rfl, hs5⟩
                     obtain ⟨A1, c1, hbi, RN⟩ := HNX.out _ (.inl rfl) w5 ⟨v5, rfl, hs5⟩
                     have d0 := hbi.c0
                     have d1 := hbi.c1
                     have g1 := hbi.fr 1
                     have HRN := Lib.hid RN
                     clear hbi RN hs5 HSH HNX)
        go_roundw
        case rel => exact ⟨j + 1, by omega, by go_num, HRN.out⟩
        case measure => simp [intOf]; omega
    · have hje : j = st.fs.length := by omega
      obtain ⟨⟨X', hI, hft⟩, hmv, _, _, _⟩ := id R
      have HFIN := Lib.hid (show AtD w1 base nb F (wakeD st keep) wr from by
        refine AtD.made h hb hF hfoot (Below.refl _ _) (Y := X') (mb := mb) ?_ hmv hft
        unfold wakeD
        rw [HD.out, if_pos rfl, ← wakeTo_all, ← hje]
        exact hI)
      have b1 : ¬ j < st.fs.length := hjl
      clear h hb hfoot hwf hlow hI0 hI hft R hmv hjl hj hje HALL
      go_wp2_with fail
      first | go_end0 | refine bodyPost_ret (results_none rfl _ _ _) rfl ?_
      exact ⟨rfl, HFIN.out⟩
end

end Go.Proofs.Ytngjmeohleoglaa
