/-
  For every row of frames (the first 60 of at most 20000 bytes): a gatherer answers the document's, frame by frame.
  Conditions: sizes.
-/
import Derived.Test.YtocankfabgjjmaaGaZi
import Derived.Test.YtocankfabgjjmaaGaT
import Derived.Test.YtocankfabgjjmaaFrO
import Derived.WalkMore
namespace Go.Proofs.Ytocankfabgjjmaa
open Go.ChangeShapes Go.WideShapes Go.ChangeAt Go.RowKit
open Go.ChangeMaps (open_string shut_string)
set_option linter.unusedVariables false
set_option linter.unusedSimpArgs false

/-- Both gatherers beside each other. -/
structure BothG (w W : World) (gb hb n : Nat) (o : Option (List (Plc × Pt))) (q : Option (List Fr)) (F G : Nat → Prop) : Prop where
  bel : Below w.heap.size w W
  g : GW W w.heap.size gb o F
  h : QW W (hb + 1) hb q G
  apart : ∀ k, F k → ¬ G k
  low : w.heap.size ≤ hb
  lt : hb < W.heap.size
  rel : RelB o q
  len : (q.getD []).length ≤ n
  gfoot : ∀ k, G k → w.heap.size ≤ k
theorem qw_low {w : World} {B gb : Nat} {o : Option (List Fr)} {F : Nat → Prop} (h : QW w B gb o F) {b : Nat} (hb : b ≤ gb) (hB : b ≤ B) : ∀ k, F k → b ≤ k := by
  cases o with
  | none =>
    obtain ⟨_, _, rfl⟩ := h
    rintro k rfl
    exact hb
  | some L =>
    obtain ⟨v, _, h2, _, _, rfl⟩ := h
    rintro k (rfl | hk)
    · exact hb
    · exact Nat.le_trans hB (h2.block k hk).1
theorem BothG.keep {w W W' : World} {gb hb n : Nat} {o : Option (List (Plc × Pt))} {q : Option (List Fr)} {F G : Nat → Prop} (h : BothG w W gb hb n o q F G) (hb' : Below W.heap.size W W') : BothG w W' gb hb n o q F G :=
  ⟨h.bel.trans (hb'.mono h.bel.size), h.g.keep fun k hk => hb'.block k (h.g.foot k hk).2, h.h.keep fun k hk => hb'.block k (h.h.foot k hk), h.apart, h.low, Nat.lt_of_lt_of_le h.lt hb'.size, h.rel, h.len, h.gfoot⟩

set_option maxRecDepth 100000 in
set_option maxHeartbeats 8000000 in
theorem gfeeds_walk (A : Option Addr) (c d : Nat) (l : List Fr) (w : World) (h : ShowsG frC w d (.slice A l.length c) l) (hok : ∀ f ∈ l, f.ok) (hll : l.length ≤ 5864062014636) :
    Calls Try.prog 3 #[.slice A l.length c] w fun e w' => e = .returned (.bool true) ∧ Below w.heap.size w w' := by
  have HNEW := Lib.hid (fun w' => new_any w')
  have HH := Lib.hid ghead_any
  have HS := Lib.hid (fun w' (hb : Below w.heap.size w w') => h.below' hb (Nat.le_refl _))
  have HOK := Lib.hid hok
  clear h hok
  go_enter Try.func3, Try.ntmps3
  go_upto_region 1 with fail
  go_wp2_with fail
  refine (HNEW.out _).mono ?_
  rintro e w1 ⟨gb, F1, rfl, hg1, hb1⟩
  have hw1 := hb1.size
  have hbx := f_below_box w1 (Obj.cells #[.slice none 0 0, .bool false] 27)
  have hq0 : (w1.alloc (Obj.cells #[.slice none 0 0, .bool false] 27)).heap[w1.heap.size]? = some (.cells #[.slice none 0 0, .bool false] 27 (0, 0)) := heap_alloc_new _ _
  have hap : ∀ k, F1 k → ¬ (k = w1.heap.size ∨ (Value.slice none 0 0).ownBlock = some k) := fun k hk hk' => by
    have := (hg1.foot k hk).2
    rcases hk' with e | e
    · omega
    · cases e
  have hgf : ∀ k, (k = w1.heap.size ∨ (Value.slice none 0 0).ownBlock = some k) → w.heap.size ≤ k := fun k hk => by
    rcases hk with e | e
    · omega
    · cases e
  have HG1 : Hid (BothG w (w1.alloc (Obj.cells #[.slice none 0 0, .bool false] 27)) gb w1.heap.size 0 (some []) (some []) F1 (fun k => k = w1.heap.size ∨ (Value.slice none 0 0).ownBlock = some k)) := Lib.hid
    { bel := hb1.trans (hbx.mono hw1)
      g := hg1.keep fun k hk => hbx.block k (hg1.foot k hk).2
      h := ⟨_, hq0, OwnG.nil_ _ _ _ _, Nat.lt_succ_self _, (fun x hx => by cases hx), rfl⟩
      apart := hap
      low := hw1
      lt := by simp
      rel := RelB.nil
      len := by simp
      gfoot := hgf }
  clear hap hgf
  clear hg1 hb1 hbx hq0
  go_upto_region 3 with fail
  generalize w1.alloc _ = W1 at *
  generalize w1.heap.size = hb at *
  go_wp2_with fail
  go_loopw [5, 6] (fun v i wr => ∃ (j x : Nat), j ≤ l.length ∧ j ≤ 60 ∧ x ≤ 20000 ∧ v = .int .i64 x ∧ i = .int .i64 j ∧ Hid (∃ o q F G, BothG w wr gb hb j o q F G)) (fun _ i _ => l.length - (intOf i).toNat)
  case atStart => exact ⟨0, 20000, Nat.zero_le _, by omega, Nat.le_refl _, rfl, rfl, Lib.hid ⟨_, _, _, _, HG1.out⟩⟩
  case round =>
    obtain ⟨j, x, hj, hj60, hx, rfl, rfl, HR⟩ := hrel
    rename World => W
    obtain ⟨o, q, F, G, hBG⟩ := HR.out
    have hWs := hBG.bel.size
    have HBG := Lib.hid hBG
    clear hBG HR
    by_cases hlt : j < l.length
    · have hjl : (j : Int) < (l.length : Int) := by omega
      by_cases h60 : j < 60
      · have hj6 : (j : Int) < 60 := by omega
        obtain ⟨oa, rfl, hd, hcl⟩ := (HS.out _ HBG.out.bel).at_ (by omega)
        obtain ⟨x0, x1, x2, x3, x4, x5, x6, x7⟩ := fr_cell hcl hlt
        have hokj := HOK.out _ (List.getElem_mem hlt)
        have HCL := Lib.hid (fun w' (hb' : Below w.heap.size w w') => (HS.out _ hb').at_ (by omega))
        have hd0 : d < w.heap.size ∧ ∀ i : Nat, i < l.length → True := by
          obtain ⟨_, _, h, _⟩ := (HS.out _ (Below.refl _ _)).at_ (by omega)
          exact ⟨h, fun _ _ => trivial⟩
        have HX : Hid (∀ w', Below w.heap.size w w' → (w'.cell? ⟨d, oa + j * 8, none⟩ = some (.bool l[j].a) ∧ w'.cell? ⟨d, oa + j * 8 + 1, none⟩ = some (.bool l[j].b) ∧ w'.cell? ⟨d, oa + j * 8 + 2, none⟩ = some (.bool l[j].c) ∧ w'.cell? ⟨d, oa + j * 8 + 3, none⟩ = some (.bool l[j].d) ∧ w'.cell? ⟨d, oa + j * 8 + 4, none⟩ = some (.int .u8 l[j].t) ∧ w'.cell? ⟨d, oa + j * 8 + 5, none⟩ = some (.int .u8 l[j].k) ∧ w'.cell? ⟨d, oa + j * 8 + 6, none⟩ = some (.int .u16 l[j].ch) ∧ w'.cell? ⟨d, oa + j * 8 + 7, none⟩ = some (.string l[j].p))) := Lib.hid fun w' hb' => by
          have hk : ∀ i, w'.cell? ⟨d, i, none⟩ = W.cell? ⟨d, i, none⟩ := fun i => World.cell?_of_block ((hb'.block d hd0.1).trans (HBG.out.bel.block d hd0.1).symm)
          refine ⟨(hk _).trans x0, (hk _).trans x1, (hk _).trans x2, (hk _).trans x3, (hk _).trans x4, (hk _).trans x5, (hk _).trans x6, (hk _).trans x7⟩
        clear hcl HCL hd0
        generalize l[j] = f at *
        by_cases hlong : x < f.p.size
        · have i1 : (x : Int) < (f.p.size : Int) := by omega
          go_wp2_with (go_at_call 6; refine (HH.out _).mono ?_; rintro e w4 ⟨rfl, hb4⟩)
          go_ret
          exact ⟨rfl, HBG.out.bel.trans (hb4.mono HBG.out.bel.size)⟩
        · have i1 : ¬ (x : Int) < (f.p.size : Int) := by omega
          obtain ⟨y, hy⟩ : ∃ y, y = x - f.p.size := ⟨_, rfl⟩
          have e1 : (x : Int) - (f.p.size : Int) = (y : Int) := by omega
          have E1 := Lib.hid (show wrap64 ((x : Int) - (f.p.size : Int)) = (y : Int) ∧ IntKind.i64.wrap ((x : Int) - (f.p.size : Int)) = (y : Int) by rw [e1]; exact ⟨w64_id _ (by omega) (by omega), i64_id _ (by omega) (by omega)⟩)
          have hy5 : y ≤ 20000 := by omega
          have hBG := HBG.out
          have HF := Lib.hid (feed_any f W w.heap.size gb o F hokj hWs hBG.g)
          have HQ0 := Lib.hid (fun (W3 : World) (hq : QW W3 (hb + 1) hb q G) (hs : hb + 1 ≤ W3.heap.size) => qfeed_any f W3 (hb + 1) hb q G hokj hs hq hBG.rel.head (by have := hBG.len; omega))
          obtain ⟨eA, hRB⟩ := hBG.rel.feed f
          have hL1 := feedQO_len q f
          have hL2 := feedQO_segs q f
          have hlen := hBG.len
          have HL1 := Lib.hid (show ((feedQO q f).2.getD []).length ≤ j + 1 by omega)
          have HL2 := Lib.hid (show (feedQO q f).1.l.length ≤ 17592186044416 by omega)
          generalize feedO o f = RR at *
          generalize feedQO q f = RQ at *
          obtain ⟨⟨rc, rk, rl, ris, re⟩, ro⟩ := RR
          obtain ⟨ra, rq⟩ := RQ
          dsimp only at eA
          subst eA
          have hRB : RelB ro rq := hRB
          have HRB := Lib.hid hRB
          obtain ⟨fa, fb, fc, fd, ft, fk, fch, fp⟩ := f
          simp only [Fr.vs] at HF HQ0 i1 e1 E1 hlong hy x0 x1 x2 x3 x4 x5 x6 x7
          dsimp only at HX
          have HF : Hid (Calls Try.prog 7 #[.pointer (some ⟨gb, 0, none⟩), .agg #[.bool fa, .bool fb, .bool fc, .bool fd, .int .u8 ft, .int .u8 fk, .int .u16 fch, .string fp]] W fun e w'' => ∃ v F', e = .returned (.tuple #[.agg #[.int .u16 rc, .int .u8 rk, v], .bool ris, .int .i64 re]) ∧ OwnG sgC 46 w'' W.heap.size v rl ∧ GW w'' w.heap.size gb ro F' ∧ (∀ k, F' k → F k ∨ W.heap.size ≤ k) ∧ Moved F W w'') := Lib.hid HF.out
          have HQ : Hid (∀ W3 : World, QW W3 (hb + 1) hb q G → hb + 1 ≤ W3.heap.size → Calls Try.prog 8 #[.pointer (some ⟨hb, 0, none⟩), .agg #[.bool fa, .bool fb, .bool fc, .bool fd, .int .u8 ft, .int .u8 fk, .int .u16 fch, .string fp]] W3 fun e w'' => ∃ v F', e = .returned (.tuple #[.agg #[.int .u16 rc, .int .u8 rk, v], .bool ris, .int .i64 re]) ∧ OwnG sgC 46 w'' W3.heap.size v rl ∧ QW w'' (hb + 1) hb rq F' ∧ (∀ k, F' k → G k ∨ W3.heap.size ≤ k) ∧ Moved G W3 w'') := Lib.hid HQ0.out
          clear HQ0 hBG hRB hL1 hL2 hlen hy e1 hokj hWs
          have z1 := E1.out.1
          have z2 := E1.out.2
          go_upto_region 10 with fail
          go_wp2_with fail
          refine HF.out.mono ?_
          rintro e w2 ⟨v2, F2, rfl, ho2, hg2, hF2, hm2⟩
          have hw2 := hm2.size
          have hbx := f_below_box w2 (Obj.cells #[.int .u16 rc, .int .u8 rk, v2] 34)
          have hX3 : BoxA (w2.alloc (Obj.cells #[.int .u16 rc, .int .u8 rk, v2] 34)) w2.heap.size rc rk v2 := BoxA.new w2 rc rk v2
          have hO3 : OwnG sgC 46 (w2.alloc (Obj.cells #[.int .u16 rc, .int .u8 rk, v2] 34)) W.heap.size v2 rl := ho2.below hbx (Nat.le_refl _)
          have hG3 : GW (w2.alloc (Obj.cells #[.int .u16 rc, .int .u8 rk, v2] 34)) w.heap.size gb ro F2 := hg2.keep fun k hk => hbx.block k (hg2.foot k hk).2
          have hB3 : Below w.heap.size w (w2.alloc (Obj.cells #[.int .u16 rc, .int .u8 rk, v2] 34)) := (hm2.below HBG.out.bel (fun k hk => (HBG.out.g.foot k hk).1) HBG.out.bel.size).trans (hbx.mono ((hm2.below HBG.out.bel (fun k hk => (HBG.out.g.foot k hk).1) HBG.out.bel.size)).size)
          have hQ3 : QW (w2.alloc (Obj.cells #[.int .u16 rc, .int .u8 rk, v2] 34)) (hb + 1) hb q G := HBG.out.h.keep fun k hk => (hbx.block k (Nat.lt_of_lt_of_le (HBG.out.h.foot k hk) hw2)).trans (hm2.block k (HBG.out.h.foot k hk) fun e => HBG.out.apart k e hk)
          have hA3 : ∀ k, F2 k → ¬ G k := fun k hk hk' => by
            rcases hF2 k hk with e | e
            · exact HBG.out.apart k e hk'
            · have := HBG.out.h.foot k hk'
              omega
          have hs3 : w2.heap.size < (w2.alloc (Obj.cells #[.int .u16 rc, .int .u8 rk, v2] 34)).heap.size := by simp
          have hlb := HBG.out.lt
          have hlo := HBG.out.low
          have hgf := HBG.out.gfoot
          have hGl := hg2.foot
          obtain ⟨A2, c2, rfl, _, _⟩ := ho2.form
          have hWl := HBG.out.bel.size
          go_upto_region 11 with fail
          generalize w2.alloc _ = W3 at *
          generalize hxb : w2.heap.size = xb at *
          have H3 := Lib.hid (And.intro hG3 (And.intro hX3 (And.intro hO3 (And.intro hB3 (And.intro hQ3 (And.intro hA3 (And.intro hs3 (And.intro hlb (And.intro hlo (And.intro hgf hGl))))))))))
          have HXB := Lib.hid (And.intro hxb (And.intro hw2 hWl))
          obtain ⟨x0, x1, x2, x3, x4, x5, x6, x7⟩ := HX.out W3 hB3
          clear hG3 hX3 hO3 hB3 hQ3 hA3 hs3 hlb hlo hgf hbx ho2 hg2 hF2 hm2 HF hw2 z1 z2 E1 hxb hWl hGl
          go_wp2_with fail
          refine (HQ.out W3 H3.out.2.2.2.2.1 (by have := H3.out.2.2.2.2.2.2.2.1; have := HXB.out.2.1; have := H3.out.2.2.2.2.2.2.1; omega)).mono ?_
          rintro e w5 ⟨v5, G5, rfl, ho5, hq5, hG5, hm5⟩
          obtain ⟨hG3, hX3, hO3, hB3, hQ3, hA3, hs3, hlb, hlo, hgf, hGl⟩ := H3.out
          obtain ⟨hxb, hw2, hWl⟩ := HXB.out
          have hw5 := hm5.size
          have hbx := f_below_box w5 (Obj.cells #[.int .u16 rc, .int .u8 rk, v5] 34)
          have hgq : ∀ k, G k → k < W.heap.size := HBG.out.h.foot
          have hB5 : Below w.heap.size w w5 := hm5.below hB3 hgf hB3.size
          have hmk : ∀ k, k < W3.heap.size → ¬ G k → (w5.alloc (Obj.cells #[.int .u16 rc, .int .u8 rk, v5] 34)).heap[k]? = W3.heap[k]? := fun k hk hn => (hbx.block k (by omega)).trans (hm5.block k hk hn)
          have hX6 : BoxA (w5.alloc (Obj.cells #[.int .u16 rc, .int .u8 rk, v5] 34)) xb rc rk (.slice A2 rl.length c2) := (hmk xb (by omega) fun e => by have := hgq _ e; omega).trans hX3
          have hO6 : OwnG sgC 46 (w5.alloc (Obj.cells #[.int .u16 rc, .int .u8 rk, v5] 34)) W.heap.size (.slice A2 rl.length c2) rl := hO3.keep fun k hk => hmk k (hO3.block k hk).2 fun e => by have := hgq _ e; have := (hO3.block k hk).1; omega
          have hY6 : BoxA (w5.alloc (Obj.cells #[.int .u16 rc, .int .u8 rk, v5] 34)) w5.heap.size rc rk v5 := BoxA.new w5 rc rk v5
          have hP6 : OwnG sgC 46 (w5.alloc (Obj.cells #[.int .u16 rc, .int .u8 rk, v5] 34)) W3.heap.size v5 rl := ho5.below hbx (Nat.le_refl _)
          have hBB : BothG w (w5.alloc (Obj.cells #[.int .u16 rc, .int .u8 rk, v5] 34)) gb hb (j + 1) ro rq F2 G5 :=
            { bel := hB5.trans (hbx.mono hB5.size)
              g := hG3.keep fun k hk => hmk k (by have := (hGl k hk).2; omega) (hA3 k hk)
              h := hq5.keep fun k hk => hbx.block k (hq5.foot k hk)
              apart := fun k hk hk' => by
                rcases hG5 k hk' with e | e
                · exact hA3 k hk e
                · have := (hGl k hk).2
                  omega
              low := hlo
              lt := by have := hbx.size; omega
              rel := HRB.out
              len := HL1.out
              gfoot := fun k hk => by
                rcases hG5 k hk with e | e
                · exact hgf k e
                · have := hB3.size
                  omega }
          obtain ⟨A5, c5, rfl, _, hm5'⟩ := ho5.form
          have hrl : rl.length ≤ 17592186044416 := HL2.out
          go_upto_region 12 with fail
          generalize w5.alloc _ = W6 at *
          generalize w5.heap.size = yb at *
          clear hG3 hX3 hO3 hB3 hQ3 hA3 hs3 hlb hlo hgf hGl hbx hB5 hmk hq5 ho5 hG5 hm5 hgq
          have a0 := hX6.c0
          have a1 := hX6.c1
          have a2 := hX6.c2
          have b0 := hY6.c0
          have b1 := hY6.c1
          have b2 := hY6.c2
          have hW6 := hBB.lt
          obtain ⟨d2, _, hs2⟩ := hO6.shows
          obtain ⟨d5, _, hs5⟩ := hP6.shows
          have HSAME : Hid (∀ (w' : World), Below W6.heap.size W6 w' →
              Calls Try.prog 9 #[.agg #[.int .u16 rc, .int .u8 rk, .slice A2 rl.length c2], .agg #[.int .u16 rc, .int .u8 rk, .slice A5 rl.length c5]] w' fun e w'' => e = .returned (.bool true) ∧ Below w'.heap.size w' w'') := Lib.hid fun w' hb' => by
            have := asame_any rc rk rc rk A2 A5 c2 c5 d2 d5 rl rl w' (hs2.below' hb' (Nat.le_refl _)) (hs5.below' hb' (Nat.le_refl _)) hrl hrl
            rw [show decide (rc = rc ∧ rk = rk ∧ rl = rl) = true by simp] at this
            exact this
          obtain ⟨n9, hn9⟩ : ∃ n9, n9 = openN ro := ⟨_, rfl⟩
          have hn8 : n9 = (distQ [] ((rq.getD []).map Fr.plc)).length := hn9.trans hBB.rel.opened
          have HOPN : Hid (∀ (w' : World), Below W6.heap.size W6 w' → Calls Try.prog 10 #[.pointer (some ⟨gb, 0, none⟩)] w' fun e w'' => e = .returned (.int .i64 n9) ∧ w'' = w') := Lib.hid fun w' hb' => by
            have := gopen_any w' w.heap.size gb ro F2 (hBB.keep hb').g
            rw [← hn9] at this
            exact this
          have HOPQ : Hid (∀ (w' : World), Below W6.heap.size W6 w' → Calls Try.prog 11 #[.pointer (some ⟨hb, 0, none⟩)] w' fun e w'' => e = .returned (.int .i64 n9) ∧ ∃ n, w'' = w'.drewN n) := Lib.hid fun w' hb' => by
            have := qopen_said w' (hb + 1) hb rq G5 (hBB.keep hb').h (by have := hBB.len; omega)
            rw [← hn8] at this
            exact this
          have HBB := Lib.hid hBB
          have hn0 := hn9
          clear hX6 hY6 hO6 hP6 hs2 hs5 hBB hn9 hn8 hn0
          have e1 : (ris != ris) = false := by simp
          have e2 : ((re : Int) != (re : Int)) = false := by simp
          have e3 : ((n9 : Int) != (n9 : Int)) = false := by simp
          go_wp2_with (first
            | (go_at_call 9
               refine (HSAME.out _ (by first | exact Below.refl _ _ | exact below_drewN (Below.refl _ _) _ | exact below_drew1 (Below.refl _ _))).mono ?_
               rintro e w7 ⟨rfl, hb7⟩
               have hB7 : Below W6.heap.size W6 w7 := by first | exact hb7 | exact (below_drew1 (Below.refl _ _)).trans (hb7.mono (Nat.le_refl _)) | exact (below_drewN (Below.refl _ _) _).trans (hb7.mono (Nat.le_refl _))
               have HX7 := Lib.hid hB7
               clear hb7 hB7)
            | (go_at_call 10
               refine (HOPN.out _ (by first | exact HX7.out | exact below_drewN HX7.out _ | exact below_drew1 HX7.out)).mono ?_
               rintro e w8 ⟨rfl, rfl⟩)
            | (go_at_call 11
               refine (HOPQ.out _ (by first | exact HX7.out | exact below_drewN HX7.out _ | exact below_drew1 HX7.out)).mono ?_
               rintro e w9 ⟨rfl, n, rfl⟩))
          go_roundw
          case rel => exact ⟨j + 1, y, by omega, by omega, hy5, by go_num, by go_num, Lib.hid ⟨_, _, _, _, HBB.out.keep (by first | exact HX7.out | exact below_drewN HX7.out _ | exact below_drew1 HX7.out)⟩⟩
          case measure => simp [intOf]; omega
      · have hj6 : ¬ (j : Int) < 60 := by omega
        go_wp2_with (go_at_call 6; refine (HH.out _).mono ?_; rintro e w4 ⟨rfl, hb4⟩)
        go_ret
        exact ⟨rfl, HBG.out.bel.trans (hb4.mono HBG.out.bel.size)⟩
    · have hjl : ¬ (j : Int) < (l.length : Int) := by omega
      go_wp2_with (go_at_call 6; refine (HH.out _).mono ?_; rintro e w4 ⟨rfl, hb4⟩)
      go_ret
      exact ⟨rfl, HBG.out.bel.trans (hb4.mono HBG.out.bel.size)⟩

set_option maxRecDepth 100000 in
set_option maxHeartbeats 1000000 in
theorem gfeeds_walk_lifted (os : Os) (started : os.Started) (H : Type) (enc : TypeId × Value → H) :
    ReturnsInHanded {} Try.checked os 3 .any (Rows.gatherFeedsSpec.pre6 enc Try.prog Try.f3 Rows.gatherFeedsRow.domain false) (Rows.gatherFeedsSpec.post enc Try.prog Try.f3 false true false false) := by
  refine returnsInHanded_of_change_sized (C := Try.checked) own started (by kernel_rfl) Try.func3
    (ChangeSpec.witness6 (enc := enc) (C := Try.checked) false ⟨#[], #[.slice none 0 0], []⟩ 8 (by kernel_rfl) (by kernel_rfl) (by kernel_rfl) (by kernel_rfl)) ?_
  intro W base args ds gs before hval0 hW hcnd hsz0 _
  have hval : ∀ (j : Nat) t v, Try.f3.params[j]? = some t → args[j]? = some v → Value.okWide Try.prog W .any base t v := hval0
  have hsz : (DataW.weightsEach Try.prog (Try.f3.params.toList ++ Rows.gatherFeedsSpec.plain.varTypes Try.prog) (ds ++ gs)).all (· ≤ reachBytes) = true := hsz0
  have hW' := hW
  obtain ⟨p, q, hA0, hV, rfl, hfz, hnd⟩ := hW
  have hA : DataW.TrodAll enc Try.prog W 0 (fun _ => true) true Try.f3.params.toList args.toList ds p := hA0
  rw [Try.params3] at hA hval hsz
  obtain ⟨v0, vs0, d0, ds0, p0, q0, hargs, rfl, rfl, h0, r0⟩ := trodAll_cons hA
  obtain ⟨rfl, rfl, rfl⟩ := trodAll_nil r0
  obtain rfl : args = #[v0] := by cases args; simp_all
  obtain ⟨rfl, rfl⟩ := trodVars_none hV
  have k0 := h0
  have lt0 : ∀ x ∈ p0, x.block < W.heap.size := by obtain ⟨m, hm⟩ := k0; exact DataW.trod_lt m _ _ _ hm
  obtain ⟨A0, c0, b0, L0, rfl, sh0, l0, ok0⟩ := open_frames (hval 0 22 v0 rfl rfl) h0 hsz 0 rfl rfl
  clear hA0 hval0
  refine (gfeeds_walk A0 c0 b0 L0 W sh0 ok0 (by omega)).mono fun e W' ⟨he, bel⟩ => ?_
  subst he
  exact ⟨_, rfl, _, _, _, [], _, [], hW', trodAll_mk1 (shut_bool Try.underlying4 _), (trodAll_cons_mk (Below.trod laidOut (by kernel_rfl) (of_decide_eq_true (by kernel_rfl)) k0 bel lt0) trodAll_mk0), rfl, bel.frame _, fun h => by cases h⟩

theorem gatherFeeds_holds : Rows.GatherFeedsSaid :=
  OpenClaim.holds_of_wide 3 Try.f3 rfl rfl rfl rfl rfl rfl rfl ⟨rfl, rfl, rfl, rfl, rfl⟩ rfl rfl rfl rfl rfl (by kernel_rfl) Try.func3 (by kernel_rfl)
    (of_decide_eq_true (by kernel_rfl)) (by unfold Func.isWrapper; first | (rw [if_pos (by decide +kernel)]; kernel_rfl) | (rw [if_neg (by decide +kernel)]; exact ⟨rfl, rfl⟩))
    (fun os started H enc _ => gfeeds_walk_lifted os started H enc)
#print axioms gatherFeeds_holds
end Go.Proofs.Ytocankfabgjjmaa
