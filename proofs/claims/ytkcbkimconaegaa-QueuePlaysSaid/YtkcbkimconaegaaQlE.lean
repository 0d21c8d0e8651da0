/-
  For any limit and any calls (the first 80): a queue answers the document's, call by call.
  Conditions: none.
-/
import Derived.Test.YtkcbkimconaegaaQlD
import Derived.Test.YtkcbkimconaegaaQlC
import Derived.Test.YtkcbkimconaegaaQlO
import Derived.Test.YtkcbkimconaegaaRows
namespace Go.Proofs.Ytkcbkimconaegaa
open Go.ChangeShapes Go.WideShapes Go.ChangeAt Go.RowKit Go.Shelf
set_option linter.unusedVariables false
set_option linter.unusedSimpArgs false
set_option maxRecDepth 100000

theorem actQ_ok {x : CallQ} {q : QP} (h : q.ok) (hx : x.ok) : (actQ x q).ok := by
  unfold actQ
  split
  · exact (stepQ_ok h hx).purge
  · exact stepQ_ok h hx
theorem actQ_len (x : CallQ) (q : QP) : (actQ x q).l.length ≤ q.l.length + 1 := by
  have h1 := stepQ_len x q
  unfold actQ
  split
  · have h2 : (heldQ (stepQ x q).l).length ≤ (stepQ x q).l.length := List.length_filter_le _ _
    show (heldQ (stepQ x q).l).length ≤ _
    omega
  · exact h1

theorem call_cell {w : World} {d o c : Nat} {l : List CallQ} (h : ∀ j (h : j < l.length) k, k < callC.sz → w.cell? ⟨d, o + (j * callC.sz + k), none⟩ = (callC.enc l[j])[k]?) {j : Nat} (hj : j < l.length) : w.cell? ⟨d, o + j * 6, none⟩ = some (.int .u8 l[j].what) ∧ w.cell? ⟨d, o + j * 6 + 1, none⟩ = some (.int .u64 l[j].a) ∧ w.cell? ⟨d, o + j * 6 + 2, none⟩ = some (.int .u64 l[j].b) ∧ w.cell? ⟨d, o + j * 6 + 3, none⟩ = some (.int .u64 l[j].c) ∧ w.cell? ⟨d, o + j * 6 + 4, none⟩ = some (.int .i64 l[j].n) ∧ w.cell? ⟨d, o + j * 6 + 5, none⟩ = some (.bool l[j].more) :=
  ⟨h j hj 0 (by decide), h j hj 1 (by decide), h j hj 2 (by decide), h j hj 3 (by decide), h j hj 4 (by decide), h j hj 5 (by decide)⟩
section
variable {w0 w : World} {pb qb : Nat} {p q : QP} {X : Nat → Prop}
theorem Duo.ownerP (h : Duo w0 pb qb p q X w) (hn : p.l.length ≤ 1000000) (id : Nat) (hi : id < 18446744073709551616) : Calls Try.prog 10 #[.pointer (some ⟨pb, 0, none⟩), .int .u64 id] w fun e w' => e = .returned (.tuple #[.int .u64 (p.owner id).1, .int .i64 (p.owner id).2]) ∧ Duo w0 pb qb p q X w' ∧ KeptX X w w' :=
  h.callR fun F G h1 h2 => powner_any h1 h.okp hn id hi
theorem Duo.findQ (h : Duo w0 pb qb p q X w) (hn : q.l.length ≤ 1000000) (id : Nat) : Calls Try.prog 11 #[.pointer (some ⟨qb, 0, none⟩), .int .u64 id] w fun e w' => e = .returned (.int .i64 (placeV (q.find id))) ∧ Duo w0 pb qb p q X w' ∧ KeptX X w w' :=
  h.callR fun F G h1 h2 => (qfind_any h2 hn id).mono fun e w' he => by obtain ⟨rfl, rfl⟩ := he; exact ⟨rfl, Below.refl _ _⟩
end
theorem duo_new {w w1 : World} {pb : Nat} {F : Nat → Prop} {mn : Nat} (hp : PW w1 w.heap.size pb ⟨mn, [], 0, 0⟩ F) (hb : Below w.heap.size w w1) (hm : mn ≤ 4611686018427387904) :
    Duo w pb w1.heap.size ⟨mn, [], 0, 0⟩ ⟨mn, [], 0, 0⟩ (fun _ => False) (w1.alloc (.cells #[.int .u64 mn, .slice none 0 0, .int .i64 0, .int .u64 0] 29)) := by
  have hbel : Below w1.heap.size w1 (w1.alloc (.cells #[.int .u64 mn, .slice none 0 0, .int .i64 0, .int .u64 0] 29)) := (Below.refl _ _).alloc (Nat.le_refl _) _
  have ho : (⟨mn, [], 0, 0⟩ : QP).ok := ⟨hm, by show 0 + 0 ≤ mn; omega, fun x hx => (by cases hx), by show 0 < 18446744073709551616; omega, List.Pairwise.nil, fun x hx => (by cases hx)⟩
  refine ⟨hb.trans (hbel.mono hb.size), ho, ho, F, FQ w1.heap.size none 0 0, hp.keep fun k hk => hbel.block k (hp.foot k hk).2, ⟨none, 0, ⟨heap_alloc_new w1 _, OwnG.nil_ _ _ _ _, fun g hg => (by cases hg), hb.size⟩, rfl⟩, fun k hF hG => ?_, fun k hk => hk.elim⟩
  have := (hp.foot k hF).2
  rcases hG with h1 | h1
  · omega
  · cases h1

set_option maxHeartbeats 8000000 in
theorem qplays_walk (lim : Nat) (A : Option Addr) (c d : Nat) (l : List CallQ) (w : World) (hlim : lim < 18446744073709551616) (h : ShowsG callC w d (.slice A l.length c) l) (hll : l.length ≤ 4000000000000) (hok : ∀ x ∈ l, x.ok) :
    Calls Try.prog 3 #[.int .u64 lim, .slice A l.length c] w fun e w' => e = .returned (.bool true) ∧ Below w.heap.size w w' := by
  have HN := Lib.hid (fun w' => pnewQ_any lim w' hlim)
  have HH := Lib.hid (fun w' (hb : Below w.heap.size w w') => (qhead_any w').mono fun e w'' (he : e = .returned (.bool true) ∧ Below w'.heap.size w' w'') => (⟨he.1, hb.trans (he.2.mono hb.size)⟩ : e = .returned (.bool true) ∧ Below w.heap.size w w''))
  have HAT := Lib.hid (fun (hp : 0 < l.length) => h.at_ hp)
  have HOK := Lib.hid hok
  obtain ⟨mn, hmn⟩ : ∃ mn, mn = min lim 4611686018427387904 := ⟨_, rfl⟩
  rw [← hmn] at HN
  have hmi : (if 4611686018427387904 < (lim : Int) then 4611686018427387904 else (lim : Int)) = (mn : Int) := by split <;> omega
  have hmi2 : min (lim : Int) 4611686018427387904 = (mn : Int) := by omega
  have hml : mn ≤ 4611686018427387904 := by omega
  have HL := Lib.hid hll
  clear h hok hmn
  go_enter Try.func3, Try.ntmps3
  go_wp2_with fail
  refine (HN.out _).mono ?_
  rintro e w1 ⟨pb, F, rfl, hp1, hb1⟩
  go_upto_region 3 with fail
  have HD0 := Lib.hid (duo_new hp1 hb1 hml)
  obtain ⟨W2, hW2⟩ : ∃ W2, W2 = (w1.alloc (.cells #[.int .u64 mn, .slice none 0 0, .int .i64 0, .int .u64 0] 29)) := ⟨_, rfl⟩
  rw [← hW2] at HD0
  rw [← hW2]
  clear hW2
  generalize w1.heap.size = qb at *
  clear hp1 hb1 hmi hmi2 hml hlim HN
  go_wp2_with fail
  go_loopw [7] (fun ii wr => ∃ (i : Nat) (q : QP), ii = .int .i64 i ∧ i ≤ l.length ∧ i ≤ 80 ∧ q.l.length ≤ i ∧ Hid (Duo w pb qb q q (fun _ => False) wr)) (fun ii _ => l.length - (intOf ii).toNat)
  case atStart => exact ⟨0, _, rfl, Nat.zero_le _, by omega, Nat.le_refl _, HD0⟩
  case round =>
    obtain ⟨i, q, rfl, hi, h80, hql, HD⟩ := hrel
    rename World => wj
    have hbel := HD.out.bel
    by_cases hlt : i < l.length
    · have hli : (i : Int) < (l.length : Int) := by omega
      by_cases hlt8 : i < 80
      · have hl8 : (i : Int) < 80 := by omega
        obtain ⟨o, rfl, hd0, hcl⟩ := HAT.out (by omega)
        have hcs := call_cell (c := c) hcl hlt
        have hokx := HOK.out _ (List.getElem_mem hlt)
        obtain ⟨x, hx⟩ : ∃ x, x = l[i] := ⟨_, rfl⟩
        rw [← hx] at hcs hokx
        have HC := Lib.hid (fun W (hb : Below w.heap.size w W) => show W.cell? ⟨d, o + i * 6, none⟩ = some (.int .u8 x.what) ∧ W.cell? ⟨d, o + i * 6 + 1, none⟩ = some (.int .u64 x.a) ∧ W.cell? ⟨d, o + i * 6 + 2, none⟩ = some (.int .u64 x.b) ∧ W.cell? ⟨d, o + i * 6 + 3, none⟩ = some (.int .u64 x.c) ∧ W.cell? ⟨d, o + i * 6 + 4, none⟩ = some (.int .i64 x.n) ∧ W.cell? ⟨d, o + i * 6 + 5, none⟩ = some (.bool x.more) from
          ⟨(World.cell?_of_block (w := w) (hb.block d hd0)).trans hcs.1, (World.cell?_of_block (w := w) (hb.block d hd0)).trans hcs.2.1, (World.cell?_of_block (w := w) (hb.block d hd0)).trans hcs.2.2.1, (World.cell?_of_block (w := w) (hb.block d hd0)).trans hcs.2.2.2.1, (World.cell?_of_block (w := w) (hb.block d hd0)).trans hcs.2.2.2.2.1, (World.cell?_of_block (w := w) (hb.block d hd0)).trans hcs.2.2.2.2.2⟩)
        have HDO := Lib.hid (does_any x hokx HD.out (by omega))
        have hq2 : (actQ x q).l.length ≤ i + 1 := Nat.le_trans (actQ_len x q) (by omega)
        have HXA := Lib.hid hokx.a
        obtain ⟨c0, c1, c2, c3, c4, c5⟩ := HC.out wj hbel
        generalize actQ x q = q2 at *
        clear hcl hcs hx hokx HD hql
        unfold callV at HDO
        go_wp2_with fail
        with_reducible refine HDO.out.mono ?_
        rintro e w3 ⟨rfl, hd3⟩
        have HT3 := Lib.hid (tells_any hd3.d (by omega))
        have HD3 := Lib.hid hd3.d
        clear hd3 c0 c1 c2 c3 c4 c5
        go_wp2_with fail
        with_reducible refine HT3.out.mono ?_
        rintro e w4 ⟨rfl, hb4⟩
        have HD4 := Lib.hid (HD3.out.step hb4).1
        obtain ⟨c0, c1, c2, c3, c4, c5⟩ := HC.out w4 HD4.out.bel
        have HOW := Lib.hid (HD4.out.ownerP (by omega) x.a HXA.out)
        clear hb4 HD3 HT3 HDO
        have hfo : (QP.owner q2 x.a = (0, 7) ∧ q2.find x.a = none) ∨ (∃ k ow, QP.owner q2 x.a = (ow, 0) ∧ q2.find x.a = some k) := by
          unfold QP.owner
          cases q2.find x.a with
          | none => exact .inl ⟨rfl, rfl⟩
          | some k => exact .inr ⟨k, _, rfl, rfl⟩
        have HQ2 := Lib.hid hq2
        rcases hfo with ⟨ho, hf⟩ | ⟨k, ow, ho, hf⟩
        all_goals
          have HHO := Lib.hid (And.intro ho hf)
          rw [ho] at HOW
          clear ho hf
          go_wp2_with fail
          with_reducible refine HOW.out.mono ?_
          rintro e w5 ⟨rfl, hd5, _⟩
          obtain ⟨c0, c1, c2, c3, c4, c5⟩ := HC.out w5 hd5.bel
          have HFI := Lib.hid (hd5.findQ (by omega) x.a)
          rw [HHO.out.2] at HFI
          unfold placeV at HFI
          simp only [] at HFI
          clear hd5
          go_wp2_with fail
          with_reducible refine HFI.out.mono ?_
          rintro e w6 ⟨rfl, hd6, _⟩
          have HD6 := Lib.hid hd6
          clear hd6
        · go_wp2_with fail
          go_roundw
          case rel => exact ⟨i + 1, q2, by go_num, by omega, by omega, HQ2.out, HD6⟩
          case measure => simp [intOf]; omega
        · have hk0 : ¬ (k : Int) < 0 := by omega
          go_wp2_with fail
          go_roundw
          case rel => exact ⟨i + 1, q2, by go_num, by omega, by omega, HQ2.out, HD6⟩
          case measure => simp [intOf]; omega
      · have hl8 : ¬ (i : Int) < 80 := by omega
        go_wp2_with fail
        with_reducible refine (HH.out _ hbel).mono ?_
        rintro e w2 ⟨rfl, hb2⟩
        go_wp2_with fail
        go_ret
        exact ⟨rfl, hb2⟩
    · have hli : ¬ (i : Int) < (l.length : Int) := by omega
      go_wp2_with fail
      with_reducible refine (HH.out _ hbel).mono ?_
      rintro e w2 ⟨rfl, hb2⟩
      go_wp2_with fail
      go_ret
      exact ⟨rfl, hb2⟩

set_option maxRecDepth 100000 in
set_option maxHeartbeats 1000000 in
theorem qplays_walk_lifted (os : Os) (started : os.Started) (H : Type) (enc : TypeId × Value → H) :
    ReturnsInHanded {} Try.checked os 3 .any (Rows.queuePlaysSpec.pre6 enc Try.prog Try.f3 Rows.queuePlaysRow.domain false) (Rows.queuePlaysSpec.post enc Try.prog Try.f3 false true false false) := by
  refine returnsInHanded_of_change_sized (C := Try.checked) own started (by kernel_rfl) Try.func3
    (ChangeSpec.witness6 (enc := enc) (C := Try.checked) false ⟨#[], #[.int .u64 0, .slice none 0 0], []⟩ 8 (by kernel_rfl) (by kernel_rfl) (by kernel_rfl) (by kernel_rfl)) ?_
  intro W base args ds gs before hval0 hW hcnd hsz0 _
  have hval : ∀ (j : Nat) t v, Try.f3.params[j]? = some t → args[j]? = some v → Value.okWide Try.prog W .any base t v := hval0
  have hsz : (DataW.weightsEach Try.prog (Try.f3.params.toList ++ Rows.queuePlaysSpec.plain.varTypes Try.prog) (ds ++ gs)).all (· ≤ reachBytes) = true := hsz0
  have hW' := hW
  obtain ⟨p, q, hA0, hV, rfl, hfz, hnd⟩ := hW
  have hA : DataW.TrodAll enc Try.prog W 0 (fun _ => true) true Try.f3.params.toList args.toList ds p := hA0
  rw [Try.params3] at hA hval hsz
  obtain ⟨v0, vs0, d0, ds0, p0, q0, hargs, rfl, rfl, h0, r0⟩ := trodAll_cons hA
  obtain ⟨v1, vs1, d1, ds1, p1, q1, rfl, rfl, rfl, h1, r1⟩ := trodAll_cons r0
  obtain ⟨rfl, rfl, rfl⟩ := trodAll_nil r1
  obtain rfl : args = #[v0, v1] := by cases args; simp_all
  obtain ⟨rfl, rfl⟩ := trodVars_none hV
  have k0 := h0
  have lt0 : ∀ x ∈ p0, x.block < W.heap.size := by obtain ⟨m, hm⟩ := k0; exact DataW.trod_lt m _ _ _ hm
  have k1 := h1
  have lt1 : ∀ x ∈ p1, x.block < W.heap.size := by obtain ⟨m, hm⟩ := k1; exact DataW.trod_lt m _ _ _ hm
  obtain ⟨s0, rfl, rfl, rfl, ws0⟩ := open_int Try.underlying22 (hval 0 22 v0 rfl rfl) h0
  obtain ⟨s00, s01⟩ := u64_range ws0
  obtain ⟨S0, rfl⟩ := Int.eq_ofNat_of_zero_le s00
  obtain ⟨A1, c1, b1, L1, rfl, sh1, l1, ok1⟩ := open_calls (hval 1 23 v1 rfl rfl) h1 hsz 1 rfl rfl
  clear hA0 hval0
  refine (qplays_walk S0 A1 c1 b1 L1 W (by omega) sh1 l1 ok1).mono fun e W' ⟨he, bel⟩ => ?_
  subst he
  exact ⟨_, rfl, _, _, _, [], _, [], hW', trodAll_mk1 (shut_bool Try.underlying4 _), (trodAll_cons_mk (Below.trod laidOut (by kernel_rfl) (of_decide_eq_true (by kernel_rfl)) k0 bel lt0) (trodAll_cons_mk (Below.trod laidOut (by kernel_rfl) (of_decide_eq_true (by kernel_rfl)) k1 bel lt1) trodAll_mk0)), rfl, bel.frame _, fun h => by cases h⟩

theorem queuePlays_holds : Rows.QueuePlaysSaid :=
  OpenClaim.holds_of_wide 3 Try.f3 rfl rfl rfl rfl rfl rfl rfl ⟨rfl, rfl, rfl, rfl, rfl⟩ rfl rfl rfl rfl rfl (by kernel_rfl) Try.func3 (by kernel_rfl)
    (of_decide_eq_true (by kernel_rfl)) (by unfold Func.isWrapper; first | (rw [if_pos (by decide +kernel)]; kernel_rfl) | (rw [if_neg (by decide +kernel)]; exact ⟨rfl, rfl⟩))
    (fun os started H enc _ => qplays_walk_lifted os started H enc)
#print axioms queuePlays_holds
end Go.Proofs.Ytkcbkimconaegaa
