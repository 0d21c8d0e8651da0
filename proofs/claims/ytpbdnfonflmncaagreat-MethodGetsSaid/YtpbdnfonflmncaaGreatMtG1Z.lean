/-
  Texts, together: MtG1, MtG.
  Conditions: none but sizes.
-/
import Derived.Test.YtpbdnfonflmncaaGreatMt0Z
import Derived.Test.YtpbdnfonflmncaaGreatMqPZ
import Derived.Test.YtpbdnfonflmncaaGreatMeCpZ
import Derived.Test.YtpbdnfonflmncaaGreatMeTZ
import Derived.Deep.DeepCutAuto
import Derived.Deep.CutBlock
import Derived.Deep.RegionHeld3
namespace Go.Proofs.YtpbdnfonflmncaaGreat
open Go.RowKit
set_option linter.unusedVariables false
set_option linter.unusedSimpArgs false
structure GtM (w : World) (rb mb cl co : Nat) (sy : Bool) (v : Value) (cs : List CellA) (l : List ArgP) (rw : RowT) (wx : World) : Prop where
  r : wx.heap[w.heap.size]? = some zMeth
  t : BoxW wx rb rw
  o : BoxM wx mb cl co sy v
  lo : w.heap.size < rb ∧ rb < mb
  own : OwnG cellAC 52 wx (mb + 1) v cs
  row : RowA (pm (Free (mb + 1) v (.slice none 0 0)) wx) cs l
  bel : Below w.heap.size w wx
theorem GtM.lt {w wx : World} {rb mb cl co : Nat} {sy : Bool} {v : Value} {cs : List CellA} {l : List ArgP} {rw : RowT} (h : GtM w rb mb cl co sy v cs l rw wx) : mb + 1 ≤ wx.heap.size := h.o.lt
theorem GtM.step {w wx wy : World} {rb mb cl co : Nat} {sy : Bool} {v : Value} {cs : List CellA} {l : List ArgP} {rw : RowT} (h : GtM w rb mb cl co sy v cs l rw wx) (hb : Below wx.heap.size wx wy) : GtM w rb mb cl co sy v cs l rw wy :=
  ⟨(hb.block _ (Array.getElem?_eq_some_iff.1 h.r).1).trans h.r, h.t.kept hb (Nat.le_refl _), h.o.kept hb (Nat.le_refl _), h.lo, h.own.keep (fun g hg => hb.block g (h.own.block g hg).2), h.row.sub (pm_pm hb.size fun k hk hkw => ⟨hk, hb.block k hkw⟩), h.bel.trans (hb.mono h.bel.size)⟩
theorem GtM.push {w wx : World} {rb mb cl co : Nat} {sy : Bool} {v : Value} {cs : List CellA} {l : List ArgP} {rw : RowT} (h : GtM w rb mb cl co sy v cs l rw wx) {y : CellA} {o : Obj} {v8 : Value} {w8 : World} {B : Nat} (hB : mb + 1 ≤ B) (hvB : ∀ k, v.ownBlock = some k → k < B) (hy : FitC (lowm B wx) y)
    (ho : OwnG cellAC 52 w8 (mb + 1) v8 (cs ++ [y])) (hg : (wx.alloc o).grownBy w8 v.ownBlock) (hwh : v8.ownBlock = v.ownBlock ∨ v8.ownBlock = some (wx.alloc o).heap.size) :
    GtM w rb mb cl co sy v8 (cs ++ [y]) (l ++ [y.a]) rw (w8.setCell ⟨mb, 3, none⟩ v8) := by
  have hlt := h.lt
  obtain ⟨lo1, lo2⟩ := h.lo
  have hbA : Below wx.heap.size wx (wx.alloc o) := (Below.refl _ _).alloc (Nat.le_refl _) _
  have hlo : ∀ k, v.ownBlock = some k → mb + 1 ≤ k ∧ k < wx.heap.size := h.own.block
  have hs8 : wx.heap.size ≤ w8.heap.size := by have := hg.size; simp at this; omega
  have hkeep : ∀ k, k < wx.heap.size → v.ownBlock ≠ some k → w8.heap[k]? = wx.heap[k]? := fun k hk hne => (hg.block k (by simp; omega) (fun e => hne e.symm)).trans (hbA.block k hk)
  have hset : ∀ k, k ≠ mb → (w8.setCell ⟨mb, 3, none⟩ v8).heap[k]? = w8.heap[k]? := fun k hk => Below.heap_setCell _ _ _ _ (by show k ≠ _; exact hk)
  have hss : (w8.setCell ⟨mb, 3, none⟩ v8).heap.size = w8.heap.size := by simp
  have hlow : ∀ k, k < mb + 1 → v.ownBlock ≠ some k := fun k hk e => by have := (hlo _ e).1; omega
  have hSub : Sub (pm (Free (mb + 1) v (.slice none 0 0)) wx) (pm (Free (mb + 1) v8 (.slice none 0 0)) w8) := free_left hbA hg hwh
  have hSet : Sub (pm (Free (mb + 1) v8 (.slice none 0 0)) w8) (pm (Free (mb + 1) v8 (.slice none 0 0)) (w8.setCell ⟨mb, 3, none⟩ v8)) :=
    pm_pm (by rw [hss]; exact Nat.le_refl _) fun k hk _ => ⟨hk, hset k (by have := hk.1; omega)⟩
  refine ⟨?_, ?_, ?_, h.lo, ?_, ?_, ?_⟩
  · exact ((hset _ (by omega)).trans (hkeep _ (by omega) (hlow _ (by omega)))).trans h.r
  · exact ((hset _ (by omega)).trans (hkeep _ (by omega) (hlow _ (by omega)))).trans h.t
  · have h8 : w8.heap[mb]? = _ := (hkeep _ (by omega) (hlow _ (by omega))).trans h.o
    exact heap_setCell_same w8 mb 3 _ 24 v8 h8
  · exact ho.keep fun k hk => hset k (by have := (ho.block k hk).1; omega)
  · refine RowA.snoc ((h.row.sub hSub).sub hSet) ?_
    obtain ⟨h1, dq, h2⟩ := hy
    exact ⟨h1, dq, (h2.sub (low_pm (B := B) (Q := Free (mb + 1) v (.slice none 0 0)) (Nat.le_refl _) (fun k hk _ => ⟨⟨by omega, fun e => by have := hvB k e; omega, by simp [Value.ownBlock]⟩, rfl⟩))).sub (hSub.trans hSet)⟩
  · exact below_set ((h.bel.alloc h.bel.size o).grown hg (by have := h.bel.size; simp; omega) (fun k hk => by have := (hlo k hk).1; omega)) (by omega) _
theorem GtM.setSy {w wx : World} {rb mb cl co : Nat} {sy : Bool} {v : Value} {cs : List CellA} {l : List ArgP} {rw : RowT} (h : GtM w rb mb cl co sy v cs l rw wx) (b : Bool) : GtM w rb mb cl co b v cs l rw (wx.setCell ⟨mb, 2, none⟩ (.bool b)) := by
  obtain ⟨lo1, lo2⟩ := h.lo
  have hset : ∀ k, k ≠ mb → (wx.setCell ⟨mb, 2, none⟩ (.bool b)).heap[k]? = wx.heap[k]? := fun k hk => Below.heap_setCell _ _ _ _ (by show k ≠ _; exact hk)
  refine ⟨(hset _ (by omega)).trans h.r, (hset _ (by omega)).trans h.t, heap_setCell_same wx mb 2 _ 24 (.bool b) h.o, h.lo, h.own.keep fun k hk => hset k (by have := (h.own.block k hk).1; omega), ?_, below_set h.bel (by omega) _⟩
  exact h.row.sub (pm_pm (by simp) fun k hk _ => ⟨hk, hset k (by have := hk.1; omega)⟩)
def GoodM (l : List UInt8) (m : MethP) : Prop := validM m ∧ okM m ∧ m_putM m = l
theorem good_get {l : List UInt8} {m : MethP} (h : GoodM l m) : m_getM l = some m := by
  obtain ⟨h1, h2, h3⟩ := h
  rw [← h3]
  exact get_back h1 h2
theorem get_good {l : List UInt8} {m : MethP} (h : m_getM l = some m) : GoodM l m := get_sound h
def LoopG (l : List UInt8) (ks : List UInt8) (j : Nat) (al : List ArgP) (r : List UInt8) : Prop :=
  ∀ m, GoodM l m → kindsD m.cl m.co = some ks → al = m.args.take j ∧ r = encArgs (ks.drop j) (m.args.drop j)
theorem encArgs_drop (ks : List UInt8) (l : List ArgP) (j : Nat) (h : j < ks.length) (h' : j < l.length) : encArgs (ks.drop j) (l.drop j) = encA ks[j].toNat l[j] ++ encArgs (ks.drop (j + 1)) (l.drop (j + 1)) := by
  rw [List.drop_eq_getElem_cons h, List.drop_eq_getElem_cons h']
  rfl
theorem flag_bit (l : List ArgP) (j : Nat) (h : j < l.length) : decide (m_flagsD l / 2 ^ j % 2 = 1) = l[j].is := by
  induction l generalizing j with
  | nil => exact absurd h (by simp)
  | cons a r ih =>
    cases j with
    | zero =>
      simp only [m_flagsD, List.getElem_cons_zero, Nat.pow_zero, Nat.div_one]
      cases a.is <;> simp <;> omega
    | succ k =>
      have hk : k < r.length := by simpa using h
      have e : m_flagsD (a :: r) / 2 ^ (k + 1) = m_flagsD r / 2 ^ k := by
        have e1 : m_flagsD (a :: r) / 2 = m_flagsD r := by simp only [m_flagsD]; split <;> omega
        rw [Nat.pow_succ, Nat.mul_comm, ← Nat.div_div_eq_div_mul, e1]
      rw [e, List.getElem_cons_succ]
      exact ih k hk
theorem LoopG.next {l ks : List UInt8} {j : Nat} {al : List ArgP} {r r2 : List UInt8} {a : ArgP} {b : Bool} (h : LoopG l ks j al r) (hj : j < ks.length) (hk : ∀ k ∈ ks, lett k.toNat) (ht : ∀ r', (readA ks[j].toNat (some r)).2 = some r' → a = (readA ks[j].toNat (some r)).1 ∧ r2 = r')
    (hb : ∀ m, GoodM l m → kindsD m.cl m.co = some ks → ∀ hm : j < m.args.length, b = m.args[j].is) : LoopG l ks (j + 1) (al ++ [{ a with is := b }]) r2 := by
  intro m hm hks
  obtain ⟨h1, h2⟩ := h m hm hks
  obtain ⟨ks', hk', hall, _⟩ := hm.1
  obtain rfl : ks' = ks := by rw [hks] at hk'; exact (Option.some.inj hk').symm
  have hlen := allV_len hall
  have hjm : j < m.args.length := by omega
  have hva := ((allV_iff _ _).1 hall).2 j hj hjm
  have hok := hm.2.1.2.2 _ (List.getElem_mem hjm)
  have he := readA_enc ks'[j].toNat m.args[j] (encArgs (ks'.drop (j + 1)) (m.args.drop (j + 1))) (hk _ (List.getElem_mem hj)) hva.2.1 hva.2.2 hok
  rw [← encArgs_drop ks' m.args j hj hjm, ← h2] at he
  obtain ⟨e1, e2⟩ := ht _ (by rw [he])
  rw [he] at e1
  refine ⟨?_, e2⟩
  rw [List.take_succ_eq_append_getElem hjm, h1, e1, hb m hm hks hjm]
theorem ShowsA.mark {w : World} {a : ArgP} {A : Option Addr} {c dq : Nat} {v0 v1 v2 v3 v4 : Value} (h : ShowsA w a A c dq v0 v1 v2 v3 v4) (b : Bool) : ShowsA w { a with is := b } A c dq v0 v1 v2 v3 v4 :=
  ⟨⟨h.sz.n, h.sz.f, h.sz.u, h.sz.s, h.sz.g, h.sz.h, h.sz.q⟩, h.q, h.v⟩
def RestG (mb : Nat) (v rv : Value) (q : List UInt8) (wx : World) : Prop := ∃ g, Shows wx g rv q ∧ (0 < q.length → g ≠ mb ∧ v.ownBlock ≠ some g)
theorem rest_next {wj W7 w8 : World} {mb g g5 : Nat} {o : Obj} {v v8 rv : Value} {r5 : List UInt8} (hs : Shows W7 g5 rv r5) (hg : g5 = g ∨ wj.heap.size ≤ g5) (hq : 0 < r5.length → g ≠ mb ∧ v.ownBlock ≠ some g)
    (hmb : mb < wj.heap.size) (hvb : ∀ k, v.ownBlock = some k → k < wj.heap.size) (hG : (W7.alloc o).grownBy w8 v.ownBlock) (hwh : v8.ownBlock = v.ownBlock ∨ v8.ownBlock = some (W7.alloc o).heap.size) :
    RestG mb v8 rv r5 (w8.setCell ⟨mb, 3, none⟩ v8) := by
  have hz := hG.size
  simp at hz
  have hn : 0 < r5.length → g5 < W7.heap.size ∧ g5 ≠ mb ∧ v.ownBlock ≠ some g5 := fun hp => by
    have hl := hs.lt hp
    obtain ⟨h3, h4⟩ := hq hp
    rcases hg with rfl | h2
    · exact ⟨hl, h3, h4⟩
    · exact ⟨hl, by omega, fun e => by have := hvb _ e; omega⟩
  refine ⟨g5, hs.keep (by simp; omega) fun hp => ?_, fun hp => ?_⟩
  · obtain ⟨h1, h2, h3⟩ := hn hp
    exact (Below.heap_setCell _ _ _ _ (by show g5 ≠ mb; exact h2)).trans ((hG.block g5 (by simp; omega) (fun e => h3 e.symm)).trans ((below_box _ o).block g5 (by omega)))
  · obtain ⟨h1, h2, h3⟩ := hn hp
    refine ⟨h2, fun e => ?_⟩
    rcases hwh with h | h
    · exact h3 (h ▸ e)
    · rw [h] at e
      simp at e
      omega
theorem bit_eq (n j : Nat) : (((n : Int) / 2 ^ j).tmod 2 == 1) = decide (n / 2 ^ j % 2 = 1) := by
  have e : ((n : Int) / 2 ^ j) = ((n / 2 ^ j : Nat) : Int) := by simp
  rw [e]
  generalize n / 2 ^ j = q
  rw [Bool.eq_iff_iff, beq_iff_eq, decide_eq_true_iff, Int.tmod_eq_emod_of_nonneg (by omega)]
  omega
theorem loop_end {l ks : List UInt8} {j : Nat} {al : List ArgP} {r : List UInt8} {cl co : Nat} {sy : Bool} (h : LoopG l ks j al r) (hj : ks.length ≤ j) (hp : ∀ m, GoodM l m → m.cl = cl ∧ m.co = co ∧ kindsD m.cl m.co = some ks ∧ m.sy = sy) : ∀ m, GoodM l m → m = ⟨cl, co, sy, al⟩ := by
  intro m hm
  obtain ⟨h1, h2, h3, h4⟩ := hp m hm
  obtain ⟨ks', hk', hall, _⟩ := hm.1
  obtain rfl : ks' = ks := by rw [h3] at hk'; exact (Option.some.inj hk').symm
  have hlen := allV_len hall
  have h5 := (h m hm h3).1
  rw [List.take_of_length_le (by omega)] at h5
  obtain ⟨mcl, mco, msy, ma⟩ := m
  dsimp only at h1 h2 h4 h5
  subst h1 h2 h4 h5
  rfl
theorem get_yes {w W : World} {l : List UInt8} {cl co n : Nat} {sy : Bool} {al : List ArgP} {A : Option Addr} {c : Nat} (hR : W.heap[w.heap.size]? = some zMeth) (hb : Below w.heap.size w W) (hL : ListA (lowm (w.heap.size + 1) W) al A c) (hn : m_getM l = some ⟨cl, co, sy, al⟩) :
    (set4 W w.heap.size (.int .u8 cl) (.int .u8 co) (.bool sy) (.slice A al.length c)).heap[w.heap.size]? = some (.cells #[.int .u8 cl, .int .u8 co, .bool sy, .slice A al.length c] 24 (0, 0)) ∧ MGetSaid (m_getM l) n w (.returned (.tuple #[.agg #[.int .u8 cl, .int .u8 co, .bool sy, .slice A al.length c], .int .i64 0])) (set4 W w.heap.size (.int .u8 cl) (.int .u8 co) (.bool sy) (.slice A al.length c)) :=
  ⟨set4_row hR, set4_below hb (Nat.le_refl _), .inr ⟨⟨cl, co, sy, al⟩, A, c, hn, rfl, (hL.sub (set4_sub (Nat.lt_succ_self _))).sub (low_out _ _)⟩⟩
theorem row_okA {w : World} {cs : List CellA} {al : List ArgP} (h : RowA w cs al) : ∀ a ∈ al, okA a := by
  intro a ha
  rw [← h.1] at ha
  obtain ⟨y, hy, rfl⟩ := List.mem_map.1 ha
  obtain ⟨_, dq, h2⟩ := h.2 y hy
  exact ⟨h2.sz.n, h2.sz.f, h2.sz.u⟩
end Go.Proofs.YtpbdnfonflmncaaGreat
namespace Go.Proofs.YtpbdnfonflmncaaGreat
open Go.RowKit
set_option linter.unusedVariables false
set_option linter.unusedSimpArgs false
theorem get_no {w W : World} {l : List UInt8} {n : Nat} (hR : W.heap[w.heap.size]? = some zMeth) (hb : Below w.heap.size w W) (hn : m_getM l = none) (he : errM l = n) :
    (set4 W w.heap.size (.int .u8 0) (.int .u8 0) (.bool false) (.slice none 0 0)).heap[w.heap.size]? = some (.cells #[.int .u8 0, .int .u8 0, .bool false, .slice none 0 0] 24 (0, 0)) ∧ MGetSaid (m_getM l) (errM l) w (.returned (.tuple #[zeroMV, .int .i64 n])) (set4 W w.heap.size (.int .u8 0) (.int .u8 0) (.bool false) (.slice none 0 0)) :=
  ⟨set4_row hR, set4_below hb (Nat.le_refl _), .inl ⟨hn, by rw [he]⟩⟩
theorem zcells {W : World} {p : Nat} (h : W.heap[p]? = some zMeth) : W.cell? ⟨p, 0, none⟩ = some (.int .u8 0) ∧ W.cell? ⟨p, 1, none⟩ = some (.int .u8 0) ∧ W.cell? ⟨p, 2, none⟩ = some (.bool false) ∧ W.cell? ⟨p, 3, none⟩ = some (.slice none 0 0) ∧ ∀ i, W.frozen? ⟨p, i, none⟩ = false :=
  ⟨cell_of_row W p 0 _ 24 (0, 0) h, cell_of_row W p 1 _ 24 (0, 0) h, cell_of_row W p 2 _ 24 (0, 0) h, cell_of_row W p 3 _ 24 (0, 0) h, fun i => frozen_of_row W p i _ 24 h⟩
theorem good_parts {x y : UInt8} {r : List UInt8} {m : MethP} {ks : List UInt8} (h : GoodM (x :: y :: r) m) (hk : kindsD m.cl m.co = some ks) :
    m.cl = x.toNat ∧ m.co = y.toNat ∧ m_flagsD m.args < 8 ∧ (2 < x.toNat → r = 1 :: (if m.sy = true then 1 else 0) :: 0 :: UInt8.ofNat (m_flagsD m.args) :: encArgs ks m.args) ∧ (¬ 2 < x.toNat → m.sy = false ∧ r = 0 :: UInt8.ofNat (m_flagsD m.args) :: encArgs ks m.args) := by
  obtain ⟨⟨ks', hk', hall, hsy⟩, ⟨o1, o2, _⟩, hp⟩ := h
  obtain rfl : ks' = ks := by rw [hk] at hk'; exact (Option.some.inj hk').symm
  obtain ⟨_, _, _, hkl, _⟩ := kinds_ok hk
  have hf : m_flagsD m.args < 8 := by
    have h1 := m_flagsD_lt m.args
    have h2 : 2 ^ m.args.length ≤ 2 ^ 3 := Nat.pow_le_pow_right (by omega) (by have := allV_len hall; omega)
    omega
  unfold m_putM headM at hp
  rw [hk, be2_small (by omega)] at hp
  simp only [Option.getD_some, List.cons_append, List.nil_append, List.cons.injEq] at hp
  obtain ⟨e1, e2, e3⟩ := hp
  have c1 : m.cl = x.toNat := by rw [← e1]; simp; omega
  have c2 : m.co = y.toNat := by rw [← e2]; simp; omega
  refine ⟨c1, c2, hf, fun h2 => ?_, fun h2 => ?_⟩
  · rw [if_pos (by omega)] at e3
    rw [← e3]
    rfl
  · rw [if_neg (by omega)] at e3
    refine ⟨?_, by rw [← e3]; rfl⟩
    cases hs : m.sy with
    | false => rfl
    | true => exact absurd (hsy hs) (by omega)
set_option maxRecDepth 100000 in
set_option maxHeartbeats 8000000 in
theorem qmget_any (l : List UInt8) (A0 : Option Addr) (c0 d0 : Nat) (w : World) (hv : Shows w d0 (.slice A0 l.length c0) l) (hl : l.length ≤ 20000) :
    Calls Tryz.prog 13 #[.slice A0 l.length c0] w (MGetSaid (m_getM l) (errM l) w) := by
  obtain ⟨W0, hW0⟩ : ∃ W0, W0 = w.alloc zMeth := ⟨_, rfl⟩
  have hb0 : Below w.heap.size w W0 := by rw [hW0]; exact below_box w _
  have hR0 : W0.heap[w.heap.size]? = some zMeth := by rw [hW0]; exact heap_alloc_new w _
  have hs0 : W0.heap.size = w.heap.size + 1 := by rw [hW0]; simp
  have HVK := Lib.hid (fun w' (hb : Below w.heap.size w w') => shows_kept hv hb)
  have HW0 := Lib.hid hW0
  obtain ⟨_, hcc, hcm⟩ := hv.lens
  clear hW0 hv
  by_cases h2 : l.length < 2
  · obtain ⟨hn, he⟩ := getM_few h2
    obtain ⟨hE, hS⟩ := get_no hR0 hb0 hn he
    have HE := Lib.hid (And.intro hE hS)
    unfold set4 at HE
    obtain ⟨z0, z1, z2, z3, zf⟩ := zcells hR0
    have i1 : (l.length : Int) < 2 := by omega
    clear hE hS hR0 hn he
    go_enter Tryz.func13, Tryz.ntmps13
    go_upto_region 1 with fail
    rw [← HW0.out]
    go_wp2_with fail
    refine bodyPost_ret (mt_results rfl _ _ w.heap.size 24 _ (0, 0) _ rfl HE.out.1 Tryz.underlying24 rfl (by kernel_rfl)) rfl ?_
    exact HE.out.2
  · have i1 : ¬ (l.length : Int) < 2 := by omega
    obtain ⟨o0, rfl, hd0, hcl⟩ := (HVK.out W0 hb0).at_ (by omega)
    have HCL : Hid (∀ W', Below W0.heap.size W0 W' → ∀ i (h : i < l.length), W'.cell? ⟨d0, o0 + i, none⟩ = some (u8c l[i])) := Lib.hid (fun W' hb i h => (World.cell?_of_block (hb.block d0 hd0)).trans (hcl i h))
    obtain ⟨x, y, r, rfl⟩ : ∃ x y r, l = x :: y :: r := by
      cases l with
      | nil => exact absurd (by simp) h2
      | cons x l =>
        cases l with
        | nil => exact absurd (by simp) h2
        | cons y r => exact ⟨x, y, r, rfl⟩
    have HFD := Lib.hid (fun w' => rfind_any table_any x.toNat y.toNat w')
    have HC2 : Hid (∀ W', Below W0.heap.size W0 W' → W'.cell? ⟨d0, o0, none⟩ = some (.int .u8 x.toNat) ∧ W'.cell? ⟨d0, o0 + 1, none⟩ = some (.int .u8 y.toNat)) := Lib.hid (fun W' hb => ⟨HCL.out W' hb 0 (by simp), HCL.out W' hb 1 (by simp)⟩)
    obtain ⟨L, hL⟩ : ∃ L, L = (x :: y :: r).length := ⟨_, rfl⟩
    rw [← hL]
    have HL := Lib.hid hL
    have hL2 : (2 : Int) ≤ (L : Int) := by rw [hL]; simp at h2 ⊢; omega
    have hLc : L ≤ 20000 := by rw [hL]; exact hl
    rw [← hL] at i1
    have j0 : (0 : Int) < (L : Int) := by omega
    have j0n : 0 < L := by omega
    have j1 : (1 : Int) < (L : Int) := by omega
    have hR0' := Lib.hid hR0
    have HS0 := Lib.hid hs0
    clear hcl hR0 h2 hL hs0
    have hbd : Below W0.heap.size W0 W0.drew := below_drew1 (Below.refl _ _)
    have HNX := Lib.hid (fun w' w'' (hb' : Below w'.heap.size w' w'') (hb : Below W0.heap.size W0 w') => hb.trans (hb'.mono hb.size))
    obtain ⟨RW, hRW⟩ : ∃ RW, RW = ((m_findD x.toNat y.toNat).map (rowOf x.toNat y.toNat)).getD row0 := ⟨_, rfl⟩
    rw [← hRW] at HFD
    have HRW := Lib.hid hRW
    clear hRW
    obtain ⟨rc, ro, rn, rk⟩ := RW
    simp only [rowV] at HFD
    obtain ⟨IS, hIS⟩ : ∃ IS, IS = (m_findD x.toNat y.toNat).isSome := ⟨_, rfl⟩
    rw [← hIS] at HFD
    have HIS := Lib.hid hIS
    clear hIS
    have zrow : Obj := Obj.cells #[.int .u8 0, .int .u8 0, .string ⟨#[]⟩, .string ⟨#[]⟩] 64
    clear zrow
    have hbA : Below W0.heap.size W0 (W0.drew.alloc (Obj.cells #[.int .u8 0, .int .u8 0, .string ⟨#[]⟩, .string ⟨#[]⟩] 64)) := hbd.alloc (Nat.le_refl _) _
    have hbB : Below W0.heap.size W0 ((W0.alloc (Obj.cells #[.int .u8 0, .int .u8 0, .string ⟨#[]⟩, .string ⟨#[]⟩] 64)).drew) := below_drew1 (below_box W0 _)
    generalize hG : m_getM (x :: y :: r) = G at *
    generalize hE : errM (x :: y :: r) = ER at *
    have HGE := Lib.hid (And.intro hG hE)
    clear hG hE
    go_enter Tryz.func13, Tryz.ntmps13
    go_upto_region 1 with fail
    rw [← HW0.out]
    go_upto_region 3 with fail
    go_cut [4, 5] from 19 to 28 (fun p q wx => ∃ rb : Nat, p = .pointer (some ⟨rb, 0, none⟩) ∧ q = .bool IS ∧ w.heap.size < rb ∧ Hid (BoxW wx rb ⟨rc, ro, rn, rk⟩ ∧ Below W0.heap.size W0 wx))
    case first =>
      go_region_held3 (fun w' => w'.cell? ⟨d0, o0, none⟩ = some (.int .u8 x.toNat) ∧ w'.cell? ⟨d0, o0 + 1, none⟩ = some (.int .u8 y.toNat)) (first | exact HC2.out _ (by assumption) | with_reducible exact HC2.out _ (hb5'.alloc hb5'.size _) | with_reducible exact HC2.out _ (set4_belowW hb5' (Nat.le_refl _)))
        ((go_at_call 23
          refine (HFD.out _).mono ?_
          rintro e w5 ⟨rfl, hb5⟩
          have hb5' := HNX.out _ _ hb5 (by assumption)
          first
            | (have zz : BoxW w5 W0.heap.size row0 := (hb5.block W0.heap.size (by simp)).trans (heap_alloc_new W0 _)
               have zc0 := zz.cells.1
               have zc1 := zz.cells.2.1
               have zc2 := zz.cells.2.2.1
               have zc3 := zz.cells.2.2.2
               have zf := zz.fr)
            | (have zz : BoxW (w5.alloc (Obj.cells #[.int .u8 0, .int .u8 0, .string ⟨#[]⟩, .string ⟨#[]⟩] 64)) w5.heap.size row0 := heap_alloc_new w5 _
               have zc0 := zz.cells.1
               have zc1 := zz.cells.2.1
               have zc2 := zz.cells.2.2.1
               have zc3 := zz.cells.2.2.2
               have zf := zz.fr)))
      all_goals
        go_wp2_with fail
        go_meet
        first
          | (refine ⟨w5.heap.size, by with_reducible rfl, by with_reducible rfl, ?_, ?_⟩
             · have h1 := hb5'.size
               have h2 := HS0.out
               omega
             · have hA : BoxW (w5.alloc (Obj.cells #[.int .u8 rc, .int .u8 ro, .string rn, .string rk] 64)) w5.heap.size ⟨rc, ro, rn, rk⟩ := heap_alloc_new w5 _
               have hB : Below W0.heap.size W0 (w5.alloc (Obj.cells #[.int .u8 rc, .int .u8 ro, .string rn, .string rk] 64)) := hb5'.alloc hb5'.size _
               exact Lib.hid ⟨hA, hB⟩)
          | (refine ⟨W0.heap.size, by with_reducible rfl, by with_reducible rfl, ?_, ?_⟩
             · have h2 := HS0.out
               omega
             · have hA : BoxW ((((w5.setCell ⟨W0.heap.size, 0, none⟩ (.int .u8 rc)).setCell ⟨W0.heap.size, 1, none⟩ (.int .u8 ro)).setCell ⟨W0.heap.size, 2, none⟩ (.string rn)).setCell ⟨W0.heap.size, 3, none⟩ (.string rk)) W0.heap.size ⟨rc, ro, rn, rk⟩ := set4_rowW zz
               have hB : Below W0.heap.size W0 ((((w5.setCell ⟨W0.heap.size, 0, none⟩ (.int .u8 rc)).setCell ⟨W0.heap.size, 1, none⟩ (.int .u8 ro)).setCell ⟨W0.heap.size, 2, none⟩ (.string rn)).setCell ⟨W0.heap.size, 3, none⟩ (.string rk)) := set4_belowW hb5' (Nat.le_refl _)
               exact Lib.hid ⟨hA, hB⟩)
    case rest =>
      obtain ⟨rb, rfl, rfl, hrb, HB3⟩ := hcut
      rename World => W3
      obtain ⟨hRow3, hB3⟩ := HB3.out
      have hbW3 : Below w.heap.size w W3 := hb0.trans (hB3.mono hb0.size)
      have hR3 : W3.heap[w.heap.size]? = some zMeth := (hB3.block _ (by have := HS0.out; omega)).trans hR0'.out
      obtain ⟨z0, z1, z2, z3, zf⟩ := zcells hR3
      have HR3 := Lib.hid (And.intro hRow3 (And.intro hbW3 hR3))
      have HBK := Lib.hid hB3
      clear hRow3 hbW3 hR3 hB3 hbd
      cases hf : m_findD x.toNat y.toNat with
      | none =>
        obtain ⟨hn, he⟩ := m_getM_none (r := r) hf
        rw [HGE.out.1] at hn
        rw [HGE.out.2] at he
        obtain rfl : IS = false := by rw [HIS.out, hf]; rfl
        have hz := get_no (l := x :: y :: r) (n := 80) HR3.out.2.2 HR3.out.2.1 (by rw [HGE.out.1]; exact hn) (by rw [HGE.out.2]; exact he)
        rw [HGE.out.1, HGE.out.2] at hz
        have HE := Lib.hid hz
        unfold set4 at HE
        clear hn he hz hf
        go_wp2_with fail
        refine bodyPost_ret (mt_results rfl _ _ w.heap.size 24 _ (0, 0) _ rfl HE.out.1 Tryz.underlying24 rfl (by kernel_rfl)) rfl ?_
        exact HE.out.2
      | some sh =>
        obtain rfl : IS = true := by rw [HIS.out, hf]; rfl
        go_upto_region 6 with fail
        obtain ⟨k1, k2, k3, hkl, hlet⟩ := kinds_ok (kinds_of hf)
        have HRW2 : Hid (rc = x.toNat ∧ ro = y.toNat ∧ rk = sh.kinds) := Lib.hid (by
          have h := HRW.out
          rw [hf] at h
          simp only [Option.map_some, Option.getD_some, rowOf, RowT.mk.injEq] at h
          exact ⟨h.1, h.2.1, h.2.2.2⟩)
        have HKS := Lib.hid (And.intro (kinds_of hf) (getM_err (r := r) hf))
        obtain ⟨p0, p1⟩ := HC2.out W3 HBK.out
        have hbz : Below W3.heap.size W3 (W3.alloc zMeth) := below_box W3 _
        obtain ⟨q0, q1⟩ := HC2.out (W3.alloc zMeth) (HBK.out.trans (hbz.mono HBK.out.size))
        obtain ⟨y0, y1, y2, y3, yf⟩ := zcells (heap_alloc_new W3 zMeth)
        have hbx : Below W3.heap.size W3 (W3.alloc (Obj.cells #[.int .u8 x.toNat, .int .u8 y.toNat, .bool false, .slice none 0 0] 24)) := below_box W3 _
        have hmb : BoxM (W3.alloc (Obj.cells #[.int .u8 x.toNat, .int .u8 y.toNat, .bool false, .slice none 0 0] 24)) W3.heap.size x.toNat y.toNat false (.slice none 0 0) := heap_alloc_new W3 _
        have hgt : GtM w rb W3.heap.size x.toNat y.toNat false (.slice none 0 0) [] [] ⟨rc, ro, rn, rk⟩ (W3.alloc (Obj.cells #[.int .u8 x.toNat, .int .u8 y.toNat, .bool false, .slice none 0 0] 24)) :=
          ⟨(hbx.block _ (Nat.lt_of_lt_of_le hrb (Nat.le_of_lt HR3.out.1.lt))).trans HR3.out.2.2, HR3.out.1.kept hbx (Nat.le_refl _), hmb, ⟨hrb, HR3.out.1.lt⟩, OwnG.nil_ _ _ _ _, RowA.nil _, HR3.out.2.1.trans (hbx.mono HR3.out.2.1.size)⟩
        have HGT := Lib.hid hgt
        have HBX := Lib.hid hbx
        clear hf hbz hbx hmb hgt
        go_region
        all_goals
          clear p0 p1 q0 q1 y0 y1 y2 y3 yf z0 z1 z2 z3 zf
          have hgt := HGT.out.step (Below.refl _ _).drew
          have hbx := HBX.out.drew
          clear hbA hbB
          generalize World.drew _ = W4 at *
          obtain ⟨mb, hmb⟩ : ∃ mb, mb = W3.heap.size := ⟨_, rfl⟩
          rw [← hmb] at hgt ⊢
          have HMB := Lib.hid hmb
          clear hmb HGT HBX
          have hBW4 : Below W0.heap.size W0 W4 := HBK.out.trans (hbx.mono HBK.out.size)
          have HG4 := Lib.hid (And.intro hgt hBW4)
          have hrz := hgt.r
          have hbw := hgt.bel
          have e0 := hgt.o.c0
          have hnone : (∀ m, GoodM (x :: y :: r) m → False) → m_getM (x :: y :: r) = none := fun h => by
            cases hm : m_getM (x :: y :: r) with
            | none => rfl
            | some m => exact (h m (get_good hm)).elim
          have hgp : ∀ m, GoodM (x :: y :: r) m → m.cl = x.toNat ∧ m.co = y.toNat ∧ m_flagsD m.args < 8 ∧ kindsD m.cl m.co = some (sb sh.kinds) ∧ (2 < x.toNat → r = 1 :: (if m.sy = true then 1 else 0) :: 0 :: UInt8.ofNat (m_flagsD m.args) :: encArgs (sb sh.kinds) m.args) ∧ (¬ 2 < x.toNat → m.sy = false ∧ r = 0 :: UInt8.ofNat (m_flagsD m.args) :: encArgs (sb sh.kinds) m.args) := fun m hm => by
            obtain ⟨ks, hk, _⟩ := hm.1
            have h := good_parts hm hk
            have hk2 := hk
            rw [h.1, h.2.1, HKS.out.1] at hk2
            obtain rfl := Option.some.inj hk2
            exact ⟨h.1, h.2.1, h.2.2.1, hk, h.2.2.2⟩
          have HGP := Lib.hid hgp
          have HNO := Lib.hid hnone
          have hways : (2 < x.toNat ∧ r.length < 4) ∨ (¬ 2 < x.toNat ∧ r.length < 2) ∨ (2 < x.toNat ∧ ¬ r.length < 4) ∨ (¬ 2 < x.toNat ∧ ¬ r.length < 2) := by omega
          clear hbx hnone hgp
          generalize hl1 : x :: y :: r = l1 at *
          rcases hways with ⟨hcl, hlen⟩ | ⟨hcl, hlen⟩ | ⟨hcl, hlen⟩ | ⟨hcl, hlen⟩
          case inl =>
            have t1 : decide ((2 : Int) < (x.toNat : Int)) = true := by simp; omega
            have t2 : decide ((L : Int) < 6) = true := by
              have := HL.out
              rw [← hl1] at this
              simp at this ⊢
              omega
            have hz := get_no (l := l1) (n := 5) hrz hbw (HNO.out fun m hm => by
              have := (HGP.out m hm).2.2.2.2.1 hcl
              rw [this] at hlen
              simp at hlen
              omega) HKS.out.2
            rw [HGE.out.1, HGE.out.2] at hz
            have HE := Lib.hid hz
            unfold set4 at HE
            obtain ⟨z0, z1, z2, z3, zf⟩ := zcells hrz
            clear hz hlen hrz hbw hgt hcl hl1
            go_wp2_with fail
            refine bodyPost_ret (mt_results rfl _ _ w.heap.size 24 _ (0, 0) _ rfl HE.out.1 Tryz.underlying24 rfl (by kernel_rfl)) rfl ?_
            exact HE.out.2
          case inr.inl =>
            have t1 : decide ((2 : Int) < (x.toNat : Int)) = false := by simp; omega
            have t2 : decide ((L : Int) < 4) = true := by
              have := HL.out
              rw [← hl1] at this
              simp at this ⊢
              omega
            have hz := get_no (l := l1) (n := 5) hrz hbw (HNO.out fun m hm => by
              have := ((HGP.out m hm).2.2.2.2.2 hcl).2
              rw [this] at hlen
              simp at hlen
              omega) HKS.out.2
            rw [HGE.out.1, HGE.out.2] at hz
            have HE := Lib.hid hz
            unfold set4 at HE
            obtain ⟨z0, z1, z2, z3, zf⟩ := zcells hrz
            clear hz hlen hrz hbw hgt hcl hl1
            go_wp2_with fail
            refine bodyPost_ret (mt_results rfl _ _ w.heap.size 24 _ (0, 0) _ rfl HE.out.1 Tryz.underlying24 rfl (by kernel_rfl)) rfl ?_
            exact HE.out.2
          case' inr.inr.inl =>
            have t1 : decide ((2 : Int) < (x.toNat : Int)) = true := by simp; omega
            obtain ⟨a, b, c, d, q, rfl⟩ : ∃ a b c d q, r = a :: b :: c :: d :: q := by
              rcases r with _ | ⟨a, _ | ⟨b, _ | ⟨c, _ | ⟨d, q⟩⟩⟩⟩
              · simp at hlen
              · simp at hlen
              · simp at hlen
              · simp at hlen
              · exact ⟨a, b, c, d, q, rfl⟩
            have hLn : L = q.length + 6 := by rw [HL.out, ← hl1]; simp
            have t2 : decide ((L : Int) < 6) = false := by simp; omega
            have HLN := Lib.hid hLn
            have c3 : W4.cell? ⟨d0, o0 + 3, none⟩ = some (.int .u8 b.toNat) := (HCL.out W4 hBW4 3 (by rw [← HL.out]; omega)).trans (by subst hl1; rfl)
            obtain ⟨SY, hSY⟩ : ∃ SY : Bool, ((b.toNat : Int) == 1) = SY := ⟨_, rfl⟩
            have e2 := hgt.o.c2
            have ef := hgt.o.fr 2
            have j3 : (3 : Int) < (L : Int) := by omega
            have j5 : (5 : Int) < (L : Int) := by omega
            have j6 : (6 : Int) ≤ (L : Int) := by omega
            have hLc0 : L ≤ c0 := by rw [HL.out]; exact hcc
            have j6c : (6 : Int) ≤ (c0 : Int) := by omega
            have hmbl : W0.heap.size ≤ mb := by have := HBK.out.size; have := HMB.out; omega
            have hBW5 : Below W0.heap.size W0 (W4.setCell ⟨mb, 2, none⟩ (.bool SY)) := hBW4.setCell (by show W0.heap.size ≤ mb; exact hmbl) _
            have c5 : (W4.setCell ⟨mb, 2, none⟩ (.bool SY)).cell? ⟨d0, o0 + 5, none⟩ = some (.int .u8 d.toNat) := (HCL.out _ hBW5 5 (by rw [← HL.out]; omega)).trans (by subst hl1; rfl)
            have HG5 := Lib.hid (And.intro (hgt.setSy SY) hBW5)
            have HSYM : Hid (∀ m, GoodM l1 m → m.sy = SY) := Lib.hid (fun m hm => by
              have h := (HGP.out m hm).2.2.2.2.1 hcl
              simp only [List.cons.injEq] at h
              rw [← hSY, h.2.1]
              cases m.sy <;> rfl)
            have HFLG : Hid (∀ m, GoodM l1 m → m_flagsD m.args = d.toNat) := Lib.hid (fun m hm => by
              have h := (HGP.out m hm).2.2.2.2.1 hcl
              have h8 := (HGP.out m hm).2.2.1
              simp only [List.cons.injEq] at h
              rw [h.2.2.2.1]
              simp
              omega)
            have HLG : Hid (LoopG l1 (sb sh.kinds) 0 [] q) := Lib.hid (fun m hm _ => by
              have h := (HGP.out m hm).2.2.2.2.1 hcl
              simp only [List.cons.injEq] at h
              exact ⟨by simp, by simpa using h.2.2.2.2⟩)
            have HRV : Hid (∀ W', Below w.heap.size w W' → Shows W' d0 (.slice (if c0 = 6 then some ⟨d0, o0, none⟩ else some ⟨d0, o0 + 6, none⟩) (L - 6) (c0 - 6)) q) := Lib.hid (fun W' hb => by
              have h := (HVK.out W' hb).tail (k := 6) (by rw [← HL.out]; omega) (if c0 = 6 then some ⟨d0, o0, none⟩ else some ⟨d0, o0 + 6, none⟩) (fun hne => by rw [if_neg hne]; rfl)
              rw [← HL.out] at h
              have e : l1.drop 6 = q := by rw [← hl1]; rfl
              rw [e] at h
              exact h)
            have HQL : Hid (q.length ≤ 20000) := Lib.hid (by omega)
            clear hcl hlen hrz hbw hgt hLn hl1
            go_upto_region 16 with fail
            clear t1 t2 c3 e2 ef j3 j5 j6 j6c c5 e0
            generalize W4.setCell _ _ = W5 at *
            generalize Value.slice (if c0 = 6 then _ else _) (L - 6) (c0 - 6) = rv at *
          case' inr.inr.inr =>
            have t1 : decide ((2 : Int) < (x.toNat : Int)) = false := by simp; omega
            obtain ⟨c, d, q, rfl⟩ : ∃ c d q, r = c :: d :: q := by
              rcases r with _ | ⟨c, _ | ⟨d, q⟩⟩
              · simp at hlen
              · simp at hlen
              · exact ⟨c, d, q, rfl⟩
            have hLn : L = q.length + 4 := by rw [HL.out, ← hl1]; simp
            have t2 : decide ((L : Int) < 4) = false := by simp; omega
            have HLN := Lib.hid hLn
            have c3 : W4.cell? ⟨d0, o0 + 3, none⟩ = some (.int .u8 d.toNat) := (HCL.out W4 hBW4 3 (by rw [← HL.out]; omega)).trans (by subst hl1; rfl)
            obtain ⟨SY, hSY⟩ : ∃ SY : Bool, SY = false := ⟨_, rfl⟩
            have j3 : (3 : Int) < (L : Int) := by omega
            have j4 : (4 : Int) ≤ (L : Int) := by omega
            have hLc0 : L ≤ c0 := by rw [HL.out]; exact hcc
            have j4c : (4 : Int) ≤ (c0 : Int) := by omega
            have HG5 : Hid (GtM w rb mb x.toNat y.toNat SY (.slice none 0 0) [] [] ⟨rc, ro, rn, rk⟩ W4 ∧ Below W0.heap.size W0 W4) := Lib.hid ⟨by rw [hSY]; exact hgt, hBW4⟩
            have HSYM : Hid (∀ m, GoodM l1 m → m.sy = SY) := Lib.hid (fun m hm => by
              rw [hSY]
              exact ((HGP.out m hm).2.2.2.2.2 hcl).1)
            have HFLG : Hid (∀ m, GoodM l1 m → m_flagsD m.args = d.toNat) := Lib.hid (fun m hm => by
              have h := ((HGP.out m hm).2.2.2.2.2 hcl).2
              have h8 := (HGP.out m hm).2.2.1
              simp only [List.cons.injEq] at h
              rw [h.2.1]
              simp
              omega)
            have HLG : Hid (LoopG l1 (sb sh.kinds) 0 [] q) := Lib.hid (fun m hm _ => by
              have h := ((HGP.out m hm).2.2.2.2.2 hcl).2
              simp only [List.cons.injEq] at h
              exact ⟨by simp, by simpa using h.2.2⟩)
            have HRV : Hid (∀ W', Below w.heap.size w W' → Shows W' d0 (.slice (if c0 = 4 then some ⟨d0, o0, none⟩ else some ⟨d0, o0 + 4, none⟩) (L - 4) (c0 - 4)) q) := Lib.hid (fun W' hb => by
              have h := (HVK.out W' hb).tail (k := 4) (by rw [← HL.out]; omega) (if c0 = 4 then some ⟨d0, o0, none⟩ else some ⟨d0, o0 + 4, none⟩) (fun hne => by rw [if_neg hne]; rfl)
              rw [← HL.out] at h
              have e : l1.drop 4 = q := by rw [← hl1]; rfl
              rw [e] at h
              exact h)
            have HQL : Hid (q.length ≤ 20000) := Lib.hid (by omega)
            clear hcl hlen hrz hbw hgt hLn hl1
            go_upto_region 16 with fail
            clear t1 t2 c3 j3 j4 j4c e0 hSY
            generalize Value.slice (if c0 = 4 then _ else _) (L - 4) (c0 - 4) = rv at *
            rename World => W5
          all_goals
            have hmbl : W0.heap.size ≤ mb := by have := HBK.out.size; have := HMB.out; omega
            clear HG4 hBW4 HFD HRW HIS HR3 HB3 HBK HMB
            obtain ⟨hw1, hw2, hw3⟩ := HRW2.out
            subst hw1 hw2 hw3
            generalize hsk : sh.kinds = sk at *
            have hslen : (sb sk).length = sk.size := sb_length sk
            have hk3 : sk.size ≤ 3 := by omega
            go_upto_region 17 with fail
            go_loopw [9, 10] (fun rv i wr => ∃ (j : Nat) (v : Value) (cs : List CellA) (al : List ArgP) (q : List UInt8), j ≤ sk.size ∧ i = .int .i64 j ∧ GtM w rb mb x.toNat y.toNat SY v cs al ⟨x.toNat, y.toNat, rn, sk⟩ wr ∧ al.length = j ∧ RestG mb v rv q wr ∧ q.length ≤ 20000 ∧ LoopG l1 (sb sk) j al q ∧ (∀ a ∈ al, a.q.length ≤ 1100)) (fun _ i _ => sk.size - (intOf i).toNat)
            case atStart => exact ⟨0, _, [], [], q, Nat.zero_le _, rfl, HG5.out.1, rfl, ⟨d0, HRV.out _ HG5.out.1.bel, fun _ => ⟨by omega, by simp [Value.ownBlock]⟩⟩, HQL.out, HLG.out, fun a ha => nomatch ha⟩
            case round =>
              obtain ⟨j, v, cs, al, q, hj, rfl, hGT, hal, hRS, hql, hLG, haq⟩ := hrel
              rename World => wj
              have q4 := hGT.t.cells.2.2.2
              dsimp only at q4
              have HGTJ := Lib.hid hGT
              by_cases hlt : j < sk.size
              · have hjs : (j : Int) < (sk.size : Int) := by omega
                have hjk := hlt
                obtain ⟨g0, hs0, hg0⟩ := hRS
                have hkk : (sb sk)[j]'(by rw [sb_length]; exact hlt) = sk[j] := sb_get sk j hlt _
                have hlj : lett sk[j].toNat := by rw [← hkk]; exact hlet _ (List.getElem_mem _)
                have HTK := Lib.hid (fun w' (hb : Below wj.heap.size wj w') => mt_take_any sk[j].toNat hlj q u9 g0 w' (shows_kept hs0 hb) hql)
                unfold TakeSaid argV at HTK
                have HGL : Hid (0 < q.length → g0 < wj.heap.size) := Lib.hid (fun hp => hs0.lt hp)
                have HG0 := Lib.hid hg0
                have HLJ := Lib.hid hLG
                have HKK := Lib.hid hkk
                have HNXJ := Lib.hid (fun w' w'' (hb' : Below w'.heap.size w' w'') (hb : Below wj.heap.size wj w') => hb.trans (hb'.mono hb.size))
                have HQ4 : Hid (∀ w', Below wj.heap.size wj w' → w'.cell? ⟨rb, 3, none⟩ = some (.string sk)) := Lib.hid (fun w' hb => (HGTJ.out.step hb).t.cells.2.2.2)
                have HT0 := Lib.hid (HTK.out wj (Below.refl _ _))
                obtain ⟨A6, c6, ev, _⟩ := hGT.own.form
                have hcj : cs.length = j := by rw [← hal]; exact hGT.row.len
                generalize hn6 : cs.length = n6 at ev
                subst ev
                obtain ⟨bt, hbt⟩ : ∃ bt : Bool, (((d.toNat : Int) / 2 ^ j).tmod 2 == 1) = bt := ⟨_, rfl⟩
                have HBT : Hid (∀ m, GoodM l1 m → ∀ hm : j < m.args.length, bt = m.args[j].is) := Lib.hid (fun m hm h => by rw [← hbt, bit_eq, ← HFLG.out m hm]; exact flag_bit m.args j h)
                have HVB := Lib.hid hGT.own.block
                have HLTJ := Lib.hid hGT.lt
                have HAL := Lib.hid hal
                clear hs0 hg0 hLG hkk hlj hGT HTK hal
                go_upto_region 22 with (go_at_call 30
                                        refine HT0.out.mono ?_
                                        rintro e5 w5 ⟨a5, A5, c5, dq5, v0, v1, v2, v3, v4, r5v, g5, r5, rfl, hsh, hs5, hrl, hq11, hb5, hsp, hg5⟩
                                        obtain ⟨xk, xn, xs, xa, xb, xc, xd, xe, xf, hxx⟩ := hsh.v.cells5
                                        simp only [List.cons.injEq, and_true] at hxx
                                        obtain ⟨rfl, rfl, rfl, rfl, rfl⟩ := hxx
                                        obtain ⟨ai, an, az, af, ag, ah, aq, av⟩ := a5
                                        have HR := Lib.hid (And.intro hsh (And.intro hs5 (And.intro hb5 hsp)))
                                        have HG5 := Lib.hid hg5
                                        clear hsh hs5 hb5 hsp hg5 HT0
                                        dsimp only)
                clear hbt q4
                obtain ⟨hsh, hs5, hb5, hsp⟩ := HR.out
                have HSP := Lib.hid hsp
                have hbx : Below wj.heap.size wj (w5.alloc (Obj.cells #[.bool bt, .int .u64 an, .string az, .int .u32 af, .string ag, .string ah, .slice A5 aq.length c5, .int .u8 xk, .int .u64 xn, .string xs, .slice xa xb xc, .slice xd xe xf] 52)) := hb5.alloc hb5.size _
                have hBox : BoxG (w5.alloc (Obj.cells #[.bool bt, .int .u64 an, .string az, .int .u32 af, .string ag, .string ah, .slice A5 aq.length c5, .int .u8 xk, .int .u64 xn, .string xs, .slice xa xb xc, .slice xd xe xf] 52)) w5.heap.size ⟨bt, an, az, af, ag, ah, aq, av⟩ (.slice A5 aq.length c5) (.int .u8 xk) (.int .u64 xn) (.string xs) (.slice xa xb xc) (.slice xd xe xf) := heap_alloc_new w5 _
                have hFit : ShowsA (lowm wj.heap.size (w5.alloc (Obj.cells #[.bool bt, .int .u64 an, .string az, .int .u32 af, .string ag, .string ah, .slice A5 aq.length c5, .int .u8 xk, .int .u64 xn, .string xs, .slice xa xb xc, .slice xd xe xf] 52))) ⟨bt, an, az, af, ag, ah, aq, av⟩ A5 c5 dq5 (.int .u8 xk) (.int .u64 xn) (.string xs) (.slice xa xb xc) (.slice xd xe xf) := (hsh.mark bt).sub (low_sub (by simp) fun k hk hkw => (below_box w5 _).block k hkw)
                have hs6 : Shows (w5.alloc (Obj.cells #[.bool bt, .int .u64 an, .string az, .int .u32 af, .string ag, .string ah, .slice A5 aq.length c5, .int .u8 xk, .int .u64 xn, .string xs, .slice xa xb xc, .slice xd xe xf] 52)) g5 r5v r5 := shows_kept hs5 (below_box w5 _)
                obtain ⟨ab, hab⟩ : ∃ ab, ab = w5.heap.size := ⟨_, rfl⟩
                rw [← hab] at hBox ⊢
                generalize w5.alloc (Obj.cells #[.bool bt, .int .u64 an, .string az, .int .u32 af, .string ag, .string ah, .slice A5 aq.length c5, .int .u8 xk, .int .u64 xn, .string xs, .slice xa xb xc, .slice xd xe xf] 52) = W6 at *
                have hC6 := HGTJ.out.step hbx
                obtain ⟨⟨x0, x1, x2⟩, ⟨x3, x4, x5⟩, x6, x7, x8, x9, x10, x11⟩ := hBox.cells
                have o3 := hC6.o.c3
                have HC6 := Lib.hid hC6
                have hown := hC6.own
                have hlt6 := hC6.lt
                have hlj := HLTJ.out
                have HFS := Lib.hid (And.intro hFit hs6)
                clear hsh hs5 hb5 hsp hbx hBox hFit hs6 hC6 hab HR
                go_wp2_with (at_builtin
                             refine wpList_appendW cellAC _ rfl (.tmp 90) (.tmp 92) 22 rfl (mb + 1) 52 (.agg #[.bool false, .int .u64 0, .string ⟨#[]⟩, .int .u32 0, .string ⟨#[]⟩, .string ⟨#[]⟩, .slice none 0 0, .int .u8 0, .int .u64 0, .string ⟨#[]⟩, .slice none 0 0, .slice none 0 0]) 176 Tryz.underlying22 infoArg rfl (.slice A6 n6 c6) cs rfl (hown.alloc_ _) W6.heap.size (.slice (some ⟨W6.heap.size, 0, none⟩) 1 1) [⟨⟨bt, an, az, af, ag, ah, aq, av⟩, A5, aq.length, c5, ⟨xk, xn, xs, xa, xb, xc, xd, xe, xf⟩⟩] rfl (ShowsG.lit (C := cellAC) [⟨⟨bt, an, az, af, ag, ah, aq, av⟩, A5, aq.length, c5, ⟨xk, xn, xs, xa, xb, xc, xd, xe, xf⟩⟩] (by simp [Code.all, cellAC, CellA.vs]) (by simp [maxLen])) (by simp) (by simp; omega) (by simp; omega) (by simp; omega) ?_
                             intro v8 w8 ho8 hg8 hwh8
                             obtain ⟨A8, c8, e8, _⟩ := ho8.form
                             generalize hn8 : (cs ++ ([⟨⟨bt, an, az, af, ag, ah, aq, av⟩, A5, aq.length, c5, ⟨xk, xn, xs, xa, xb, xc, xd, xe, xf⟩⟩] : List CellA)).length = n8 at e8
                             subst e8
                             have hP8 : GtM w rb mb x.toNat y.toNat SY (.slice A8 n8 c8) (cs ++ [⟨⟨bt, an, az, af, ag, ah, aq, av⟩, A5, aq.length, c5, ⟨xk, xn, xs, xa, xb, xc, xd, xe, xf⟩⟩]) (al ++ [⟨bt, an, az, af, ag, ah, aq, av⟩]) ⟨x.toNat, y.toNat, rn, sk⟩ (w8.setCell ⟨mb, 3, none⟩ (.slice A8 n8 c8)) := HC6.out.push (B := wj.heap.size) (by omega) (fun k hk => (HVB.out k hk).2) ⟨rfl, dq5, HFS.out.1⟩ ho8 hg8 hwh8
                             have hRS8 : RestG mb (.slice A8 n8 c8) r5v r5 (w8.setCell ⟨mb, 3, none⟩ (.slice A8 n8 c8)) := rest_next (wj := wj) HFS.out.2 HG5.out (fun hp => HG0.out (by omega)) (by omega) (fun k hk => (HVB.out k hk).2) hg8 hwh8
                             have hO8 : BoxM w8 mb x.toNat y.toNat SY (.slice A6 n6 c6) := (hg8.block _ (by simp; omega) (fun e => by have := (HVB.out _ e.symm).1; omega)).trans ((below_box W6 _).block _ (by omega) |>.trans HC6.out.o)
                             have u3 := hO8.c3
                             have f8 : w8.frozen? ⟨mb, 3, none⟩ = false := frozen_of_row w8 mb 3 _ 24 hO8
                             clear x0 x1 x2 x3 x4 x5 x6 x7 x8 x9 x10 x11 o3)
                have HN := Lib.hid (LoopG.next (a := ⟨ai, an, az, af, ag, ah, aq, av⟩) (b := bt) HLJ.out (by omega) hlet (by rw [HKK.out]; exact HSP.out) (fun m hm _ h => HBT.out m hm h))
                go_roundw
                case rel =>
                  refine ⟨j + 1, _, cs ++ [⟨⟨bt, an, az, af, ag, ah, aq, av⟩, A5, aq.length, c5, ⟨xk, xn, xs, xa, xb, xc, xd, xe, xf⟩⟩], al ++ [⟨bt, an, az, af, ag, ah, aq, av⟩], r5, by omega, by go_num, hP8, ?_, hRS8, by omega, HN.out, ?_⟩
                  · have := HAL.out
                    simp [this]
                  · intro a ha
                    rcases List.mem_append.1 ha with ha | ha
                    · exact haq a ha
                    · obtain rfl := List.mem_singleton.1 ha
                      exact hq11
                case measure => simp [intOf]; omega
              · have hjs : ¬ (j : Int) < (sk.size : Int) := by omega
                obtain ⟨A7, c7, e7, hLA⟩ := listA_of hGT.own hGT.row (by omega)
                subst e7
                have HONE : Hid (∀ m, GoodM l1 m → m = ⟨x.toNat, y.toNat, SY, al⟩) := Lib.hid (loop_end hLG (by omega) (fun m hm => ⟨(HGP.out m hm).1, (HGP.out m hm).2.1, (HGP.out m hm).2.2.2.1, HSYM.out m hm⟩))
                have HOK : Hid (okM ⟨x.toNat, y.toNat, SY, al⟩) := Lib.hid ⟨by show x.toNat < 256; omega, by show y.toNat < 256; omega, row_okA hGT.row⟩
                have HPT := Lib.hid (qmput_any x.toNat y.toNat SY al A7 c7 wj (hLA.sub (low_out _ _)) haq (by omega) (by omega))
                unfold PutMSaid at HPT
                have HLA := Lib.hid (hLA.sub (low_anti (show w.heap.size + 1 ≤ mb + 1 by have := hGT.lo; omega)))
                have b0 := hGT.o.c0
                have b1 := hGT.o.c1
                have b2 := hGT.o.c2
                have b3 := hGT.o.c3
                clear hGT hRS hLG hLA hlt
                clear hal
                go_upto_region 24 with (go_at_call 9
                                        refine HPT.out.mono ?_
                                        rintro e6 w6 ⟨pv, n, rfl, hcase, hb6⟩
                                        have HC6 := Lib.hid hcase
                                        have HB6 := Lib.hid hb6
                                        clear hcase hb6)
                have hG6 := HGTJ.out.step HB6.out
                have HLA6 := Lib.hid (HLA.out.sub (low_sub HB6.out.size fun k _ hk => HB6.out.block k hk))
                have hrz := hG6.r
                obtain ⟨z0, z1, z2, z3, zf⟩ := zcells hrz
                have p0 := hG6.o.c0
                have p1 := hG6.o.c1
                have p2 := hG6.o.c2
                have p3 := hG6.o.c3
                have HRZ := Lib.hid (And.intro hrz hG6.bel)
                clear hG6 hrz b0 b1 b2 b3 q4 HPT HLA
                rcases HC6.out with ⟨hv, rfl, ho⟩ | ⟨hv, rfl, rfl⟩
                case inl =>
                  obtain ⟨gp, _, hsp⟩ := ho.shows
                  have cv1 := conv_at hsp
                  have cv2 := conv_at (HVK.out w6 HRZ.out.2)
                  rw [← HL.out] at cv2
                  have HV := Lib.hid hv
                  clear hv ho hsp HC6
                  generalize hpm : m_putM ⟨x.toNat, y.toNat, SY, al⟩ = pb at *
                  have HPM := Lib.hid hpm
                  clear hpm
                  by_cases hpl : pb = l1
                  · have t9 : (!(str8 pb).toList == (str8 l1).toList) = false := by rw [hpl]; simp
                    have hgood : GoodM l1 ⟨x.toNat, y.toNat, SY, al⟩ := ⟨HV.out, HOK.out, by rw [HPM.out, hpl]⟩
                    have hz := get_yes (n := ER) HRZ.out.1 HRZ.out.2 HLA6.out (good_get hgood)
                    rw [HGE.out.1] at hz
                    have HE := Lib.hid hz
                    unfold set4 at HE
                    clear hz hgood hpl
                    go_wp2_with fail
                    refine bodyPost_ret (mt_results rfl _ _ w.heap.size 24 _ (0, 0) _ rfl HE.out.1 Tryz.underlying24 rfl (by kernel_rfl)) rfl ?_
                    exact HE.out.2
                  · have t9 : (!(str8 pb).toList == (str8 l1).toList) = true := by rw [str8_toList, str8_toList]; simp [hpl]
                    have hz := get_no (l := l1) (n := 5) HRZ.out.1 HRZ.out.2 (HNO.out fun m hm => by
                      have h := HONE.out m hm
                      rw [h] at hm
                      exact hpl (HPM.out.symm.trans hm.2.2)) HKS.out.2
                    rw [HGE.out.1, HGE.out.2] at hz
                    have HE := Lib.hid hz
                    unfold set4 at HE
                    clear hz hpl
                    go_wp2_with fail
                    refine bodyPost_ret (mt_results rfl _ _ w.heap.size 24 _ (0, 0) _ rfl HE.out.1 Tryz.underlying24 rfl (by kernel_rfl)) rfl ?_
                    exact HE.out.2
                case inr =>
                  have hz := get_no (l := l1) (n := 5) HRZ.out.1 HRZ.out.2 (HNO.out fun m hm => by
                    have h := HONE.out m hm
                    rw [h] at hm
                    exact hv hm.1) HKS.out.2
                  rw [HGE.out.1, HGE.out.2] at hz
                  have HE := Lib.hid hz
                  unfold set4 at HE
                  clear hz hv HC6
                  go_wp2_with fail
                  refine bodyPost_ret (mt_results rfl _ _ w.heap.size 24 _ (0, 0) _ rfl HE.out.1 Tryz.underlying24 rfl (by kernel_rfl)) rfl ?_
                  exact HE.out.2
end Go.Proofs.YtpbdnfonflmncaaGreat
