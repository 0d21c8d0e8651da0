/-
  Texts, together: EnR, EnS, EnV.
  Conditions: none but sizes.
-/
import Derived.Test.YtdklhcmoilcpgaaGreatEnIZ
import Derived.Test.YtdklhcmoilcpgaaGreatEnFZ
import Derived.BigQuiet
import Derived.Test.YtdklhcmoilcpgaaGreatEnBZ
import Derived.Test.YtdklhcmoilcpgaaGreatPrFZ
set_option linter.unusedVariables false
set_option linter.unusedSimpArgs false
namespace Go.Proofs.YtdklhcmoilcpgaaGreat
open Go.RowKit
set_option maxRecDepth 100000
def zC : EntC := ⟨0, ⟨#[]⟩, 0, 0, ⟨#[]⟩, ⟨#[]⟩, none, 0, [], none, 0, []⟩
theorem zC_shows (w : World) : ShowsE w zC := ⟨by decide, by decide, by decide, by decide, by decide, by decide, RowP.nil _, RowR.nil _⟩
theorem zC_few : Few zC.cs := fun j hj => absurd hj (by simp [zC])
def EGetSaid (l : List UInt8) (w : World) (e : Ending) (w' : World) : Prop :=
  ∃ (x : EntC) (E : Nat), e = .returned (.tuple #[entV x, .int .i64 E]) ∧ ShowsE (lowm w.heap.size w') x ∧ Few x.cs ∧ Below w.heap.size w w' ∧ ((getE l = none ∧ x = zC ∧ E = 130) ∨ (getE l = some x.e ∧ E = 0))
theorem below_low {w1 w2 : World} {B : Nat} {x : EntC} (h : ShowsE (lowm B w1) x) (hb : Below w1.heap.size w1 w2) : ShowsE (lowm B w2) x := h.sub (low_sub hb.size fun k _ hk => hb.block k hk)
set_option maxHeartbeats 8000000 in
theorem eget_any (s : ByteArray) (w : World) (hs : s.size ≤ 140737488351232) : Calls Tryz.prog 15 #[.string s] w (EGetSaid (sb s) w) := by
 have hB0 := below_boxV w zEnt
 have HD := Lib.hid (decoded_any s (w.alloc zEnt) hs)
 unfold DecSaidE at HD
 have hrow := heap_alloc_new w zEnt
 have hst : s.toList = sb s := sb_toList s
 have HPO := Lib.hid (fun x w' (h : ShowsE w' x) (hf : Few x.cs) => eput_any x w' h hf)
 have HY := Lib.hid (fun h h2 => getE_yes (l := sb s) 40 8192 4096 false h h2)
 have HN := Lib.hid (fun h => getE_no (l := sb s) 40 8192 4096 false (by decide) (by decide) (by decide) h)
 have HB0 := Lib.hid hB0
 have HROW := Lib.hid hrow
 obtain ⟨eb, heb⟩ : ∃ eb : Bool, eb = ((putE (decG 40 8192 4096 false (sb s))).toList == s.toList) := ⟨_, rfl⟩
 have heq : validE (decG 40 8192 4096 false (sb s)) → (eb = true ↔ encE (decG 40 8192 4096 false (sb s)) = sb s) := fun hv => by rw [heb, putE_ok hv, str8_toList, hst]; simp
 have HEQ := Lib.hid heq
 replace heb := heb.symm
 unfold EGetSaid
 clear hB0 hrow heq hst
 obtain ⟨E0, hE0⟩ : ∃ E0, E0 = errE (decG 40 8192 4096 false (sb s)) := ⟨_, rfl⟩
 have hE1 : validE (decG 40 8192 4096 false (sb s)) → E0 = 0 := fun hv => hE0.trans (errE_ok hv)
 have hE2 : ¬ validE (decG 40 8192 4096 false (sb s)) → E0 = 130 := fun hv => hE0.trans (errE_no hv)
 generalize decG 40 8192 4096 false (sb s) = p at *
 go_enter Tryz.func15, Tryz.ntmps15
 go_wp2_with fail
 refine HD.out.mono ?_
 rintro e w2 ⟨x, rfl, hxe, hsh2, hfew, hb2⟩
 have hPX := HPO.out x
 rw [hxe, ← hE0] at hPX
 have HPX := Lib.hid hPX
 clear hPX
 have hA3 := below_boxV w2 (Obj.cells #[.int .u8 x.k, .string x.name, .int .u64 x.n, .int .u32 x.xf, .string x.xg, .string x.xh, .slice x.A1 x.cs.length x.c1, .slice x.A2 x.rs.length x.c2] 29)
 have hX3 := BoxE.new (x := x) w2
 have hsh3 := below_low hsh2 hA3
 have HX3 := Lib.hid hX3
 have HSH := Lib.hid hsh3
 have HA3 := Lib.hid hA3
 have HB2 := Lib.hid hb2
 have HXE := Lib.hid hxe
 have HPY := Lib.hid (HPX.out _ (hsh3.sub (low_out _ _)) hfew)
 have HFEW := Lib.hid hfew
 clear hxe hfew HPX HPO hsh3 hA3 hsh2 hb2
 obtain ⟨k, name, n, xf, xg, xh, A1, c1, cs, A2, c2, rs⟩ := x
 unfold entV at *
 simp only [] at *
 obtain ⟨⟨e0, e1, e2⟩, ⟨e3, e4, e5⟩, e6, e7⟩ := hX3.cells
 simp only [] at e0 e1 e2 e3 e4 e5 e6 e7
 clear hX3
 go_wp2_with fail
 refine HPY.out.mono ?_
 rintro e w4 ⟨rfl, hb4⟩
 have hz2 : w.heap.size + 1 ≤ w2.heap.size := by have := HB2.out.size; rwa [World.size_alloc] at this
 have hz4 : w2.heap.size + 1 ≤ w4.heap.size := by have := hb4.size; rwa [World.size_alloc] at this
 have hrow4 : w4.heap[w.heap.size]? = some zEnt := (hb4.block w.heap.size (by rw [World.size_alloc]; omega)).trans ((HA3.out.block w.heap.size (by omega)).trans ((HB2.out.block w.heap.size (by simp)).trans HROW.out))
 have hbox4 := HX3.out.kept hb4 (Nat.le_refl _)
 have hbel4 : Below w.heap.size w w4 := ((HB0.out.trans (HB2.out.mono HB0.out.size)).trans (HA3.out.mono (by omega))).trans (hb4.mono (by rw [World.size_alloc]; omega))
 have hsh4 := below_low HSH.out hb4
 clear e0 e1 e2 e3 e4 e5 e6 e7 hb4 HSH HX3 HA3 HB2 HPY
 obtain ⟨⟨⟨z0, z1, z2, z3⟩, ⟨z4, z5, z6, z7⟩⟩, ⟨⟨f0, f1, f2, f3⟩, ⟨f4, f5, f6, f7⟩⟩⟩ := ent_zero hrow4
 obtain ⟨⟨e0, e1, e2⟩, ⟨e3, e4, e5⟩, e6, e7⟩ := hbox4.cells
 simp only [] at e0 e1 e2 e3 e4 e5 e6 e7
 have h8 := set8_row (.int .u8 k) (.string name) (.int .u64 n) (.int .u32 xf) (.string xg) (.string xh) (.slice A1 cs.length c1) (.slice A2 rs.length c2) hrow4
 have h8b := set8_below hbel4 (Nat.le_refl w.heap.size) (.int .u8 k) (.string name) (.int .u64 n) (.int .u32 xf) (.string xg) (.string xh) (.slice A1 cs.length c1) (.slice A2 rs.length c2)
 have h8s := (hsh4.sub (set8_sub w4 w.heap.size (by rw [World.size_alloc]; omega) (.int .u8 k) (.string name) (.int .u64 n) (.int .u32 xf) (.string xg) (.string xh) (.slice A1 cs.length c1) (.slice A2 rs.length c2))).sub (low_anti (show w.heap.size ≤ (w.alloc zEnt).heap.size by rw [World.size_alloc]; omega))
 have g8 := set8_row (.int .u8 0) (.string ⟨#[]⟩) (.int .u64 0) (.int .u32 0) (.string ⟨#[]⟩) (.string ⟨#[]⟩) (.slice none 0 0) (.slice none 0 0) hrow4
 have g8b := set8_below hbel4 (Nat.le_refl w.heap.size) (.int .u8 0) (.string ⟨#[]⟩) (.int .u64 0) (.int .u32 0) (.string ⟨#[]⟩) (.string ⟨#[]⟩) (.slice none 0 0) (.slice none 0 0)
 unfold set8 at h8 h8b h8s g8 g8b
 have H8 := Lib.hid (And.intro h8 (And.intro h8b h8s))
 have G8 := Lib.hid (And.intro g8 g8b)
 clear h8 h8b h8s g8 g8b hrow4 hbox4 hbel4 hsh4 hz2 hz4
 by_cases hv : validE p
 ·obtain rfl : E0 = 0 := hE1 hv
  cases eb with
  | true =>
   have hY := HY.out hv ((HEQ.out hv).1 rfl)
   have HYY := Lib.hid hY
   clear hY hE0 hE1 hE2
   go_wp2_with fail
   refine bodyPost_ret (results_cell_tmp rfl _ _ w.heap.size 29 _ (0, 0) _ rfl H8.out.1 Tryz.underlying29 rfl (by kernel_rfl)) rfl ?_
   exact ⟨⟨k, name, n, xf, xg, xh, A1, c1, cs, A2, c2, rs⟩, 0, rfl, H8.out.2.2, HFEW.out, H8.out.2.1, .inr ⟨by rw [HXE.out]; exact HYY.out, rfl⟩⟩
  | false =>
   have hN := HN.out (fun h => by have := (HEQ.out hv).2 h.2; cases this)
   have HNN := Lib.hid hN
   clear hN hE0 hE1 hE2
   go_wp2_with fail
   refine bodyPost_ret (results_cell_tmp rfl _ _ w.heap.size 29 _ (0, 0) _ rfl G8.out.1 Tryz.underlying29 rfl (by kernel_rfl)) rfl ?_
   exact ⟨zC, 130, rfl, zC_shows _, zC_few, G8.out.2, .inl ⟨HNN.out, rfl, rfl⟩⟩
 ·obtain rfl : E0 = 130 := hE2 hv
  have hN := HN.out (fun h => hv h.1)
  have HNN := Lib.hid hN
  clear hN hE0 hE1 hE2
  go_wp2_with fail
  refine bodyPost_ret (results_cell_tmp rfl _ _ w.heap.size 29 _ (0, 0) _ rfl G8.out.1 Tryz.underlying29 rfl (by kernel_rfl)) rfl ?_
  exact ⟨zC, 130, rfl, zC_shows _, zC_few, G8.out.2, .inl ⟨HNN.out, rfl, rfl⟩⟩
end Go.Proofs.YtdklhcmoilcpgaaGreat
namespace Go.Proofs.YtdklhcmoilcpgaaGreat
open Go.RowKit
set_option maxRecDepth 100000
section
variable {α : Type} {f : α → α → Bool}
theorem sameRow_len : ∀ {a b : List α}, a.length ≠ b.length → sameRow f a b = false
 | [], [], h => absurd rfl h
 | [], y :: b, _ => rfl
 | x :: a, [], _ => rfl
 | x :: a, y :: b, h => by
  unfold sameRow
  rw [sameRow_len (by simpa using h), Bool.and_false]
theorem sameRow_diff : ∀ {a b : List α} (j : Nat) (h1 : j < a.length) (h2 : j < b.length), f a[j] b[j] = false → sameRow f a b = false
 | x :: a, y :: b, 0, _, _, h => by
  unfold sameRow
  have h' : f x y = false := h
  rw [h', Bool.false_and]
 | x :: a, y :: b, j + 1, h1, h2, h => by
  unfold sameRow
  rw [sameRow_diff j (by simpa using h1) (by simpa using h2) h, Bool.and_false]
theorem sameRow_all : ∀ {a b : List α}, a.length = b.length → (∀ j (h1 : j < a.length) (h2 : j < b.length), f a[j] b[j] = true) → sameRow f a b = true
 | [], [], _, _ => rfl
 | x :: a, y :: b, h, hf => by
  unfold sameRow
  have h0 : f x y = true := hf 0 (by simp) (by simp)
  rw [h0, Bool.true_and]
  exact sameRow_all (by simpa using h) fun j h1 h2 => hf (j + 1) (by simpa using h1) (by simpa using h2)
end
theorem samePE_eq (a b : PutE) : samePE a b = ((a.q.toList == b.q.toList) && (decide (a.id = b.id) && (samePr a.p b.p && (a.body.toList == b.body.toList)))) := by
 rw [Bool.eq_iff_iff, samePE_iff]
 simp only [Bool.and_eq_true, beq_iff_eq, decide_eq_true_eq, samePr_iff]
 obtain ⟨q, i, p, d⟩ := a
 obtain ⟨q', i', p', d'⟩ := b
 simp only [PutE.mk.injEq]
 constructor
 ·rintro ⟨rfl, rfl, rfl, rfl⟩; exact ⟨rfl, rfl, rfl, rfl⟩
 ·rintro ⟨h1, rfl, rfl, h4⟩; exact ⟨toList_inj9 h1, rfl, rfl, toList_inj9 h4⟩
theorem sameE_eq (a b : EntE) : sameE a b = (decide (a.k = b.k) && ((a.name.toList == b.name.toList) && (decide (a.n = b.n) && (decide ((a.xf, a.xg, a.xh) = (b.xf, b.xg, b.xh)) && (sameRow samePE a.puts b.puts && sameRow sameRE a.takes b.takes))))) := by
 rw [Bool.eq_iff_iff, sameE_iff]
 simp only [Bool.and_eq_true, beq_iff_eq, decide_eq_true_eq, sameRow_iff _ samePE_iff, sameRow_iff _ sameRE_iff, Prod.mk.injEq]
 obtain ⟨k, nm, n, f, g, h, p, t⟩ := a
 obtain ⟨k', nm', n', f', g', h', p', t'⟩ := b
 simp only [EntE.mk.injEq]
 constructor
 ·rintro ⟨rfl, rfl, rfl, rfl, rfl, rfl, rfl, rfl⟩; exact ⟨rfl, rfl, rfl, ⟨rfl, rfl, rfl⟩, rfl, rfl⟩
 ·rintro ⟨rfl, h2, rfl, ⟨rfl, rfl, rfl⟩, rfl, rfl⟩; exact ⟨rfl, toList_inj9 h2, rfl, rfl, rfl, rfl, rfl, rfl⟩
theorem refGuard : Tryz.prog.eqGuardType Tryz.prog.depth 48 = false := by kernel_rfl
theorem refFields : Tryz.prog.underlying 48 = some (.struct (Tryz.prog.fieldsOf 48)) := by kernel_rfl
theorem refHeld : Tryz.prog.stoodInHeld 48 = false := by kernel_rfl
theorem run_eq_ref (q q' : ByteArray) (a b : Nat) (w : World) : (Op.equalIn 10000 48 (.agg #[.string q, .int .u64 (a : Int)]) (.agg #[.string q', .int .u64 (b : Int)])).run Tryz.prog w = .ok (decide (q = q' ∧ a = b)) w := by
 rw [run_equalIn_agg w 9999 48 _ _ refFields refHeld]
 have hm : (Tryz.prog.fieldsOf 48).toList.map (fun f => (f.type, f.offset, f.name == "_")) = [(9, 0, false), (22, 1, false)] := by kernel_rfl
 generalize (Tryz.prog.fieldsOf 48).toList = fs at hm ⊢
 obtain ⟨f, t, rfl, hf, ht⟩ := List.map_eq_cons_iff.1 hm
 obtain ⟨f', t2, rfl, hg, ht2⟩ := List.map_eq_cons_iff.1 ht
 obtain rfl : t2 = [] := List.map_eq_nil_iff.1 ht2
 simp only [Prod.mk.injEq] at hf hg
 obtain ⟨f1, f2, f3⟩ := hf
 obtain ⟨g1, g2, g3⟩ := hg
 have f4 : ¬ f.name = "_" := by simpa using f3
 have g4 : ¬ f'.name = "_" := by simpa using g3
 have e1 : ∀ x y : Nat, (Op.equalIn 9999 22 (.int .u64 (x : Int)) (.int .u64 (y : Int))).run Tryz.prog w = .ok ((x : Int) == (y : Int)) w := fun x y => run_equalIn_int w 9998 22 .u64 .u64 _ _ Tryz.underlying22
 have e2 : ∀ x y : ByteArray, (Op.equalIn 9999 9 (.string x) (.string y)).run Tryz.prog w = .ok (decide (x = y)) w := fun x y => by rw [← toList_beq]; exact run_equalIn_string w 9998 9 _ _ Tryz.underlying9
 by_cases k1 : q = q'
 ·by_cases k2 : a = b
  ·simp [Op.eqFields, part, f1, f2, f4, g1, g2, g4, e1, e2, k1, k2]
  ·simp [Op.eqFields, part, f1, f2, f4, g1, g2, g4, e1, e2, k1, k2]; omega
 ·simp [Op.eqFields, part, f1, f2, f4, g1, g2, g4, e1, e2, k1]
structure TwoT (w : World) (c c' : PutC) (wx : World) : Prop where
  a : BoxT wx w.heap.size c
  b : BoxT wx (w.heap.size + 1) c'
  bel : Below w.heap.size w wx
theorem TwoT.step {w wx wy : World} {c c' : PutC} (h : TwoT w c c' wx) (hb : Below wx.heap.size wx wy) : TwoT w c c' wy := ⟨h.a.kept hb (Nat.le_refl _), h.b.kept hb (Nat.le_refl _), h.bel.trans (hb.mono h.bel.size)⟩
theorem TwoT.new (w : World) (c c' : PutC) : TwoT w c c' ((w.alloc (Obj.cells #[.string c.e.q, .int .u64 c.e.id, .string c.e.p.key, .bool c.e.p.dur, .bool c.e.p.red, .string c.e.p.id, .int .u8 c.x.k, .int .u64 c.x.n, .string c.x.s, .slice c.x.a3 c.x.n3 c.x.c3, .slice c.x.a4 c.x.n4 c.x.c4, .string c.e.body] 67)).alloc (Obj.cells #[.string c'.e.q, .int .u64 c'.e.id, .string c'.e.p.key, .bool c'.e.p.dur, .bool c'.e.p.red, .string c'.e.p.id, .int .u8 c'.x.k, .int .u64 c'.x.n, .string c'.x.s, .slice c'.x.a3 c'.x.n3 c'.x.c3, .slice c'.x.a4 c'.x.n4 c'.x.c4, .string c'.e.body] 67)) := by
 have hB1 := below_boxV w (Obj.cells #[.string c.e.q, .int .u64 c.e.id, .string c.e.p.key, .bool c.e.p.dur, .bool c.e.p.red, .string c.e.p.id, .int .u8 c.x.k, .int .u64 c.x.n, .string c.x.s, .slice c.x.a3 c.x.n3 c.x.c3, .slice c.x.a4 c.x.n4 c.x.c4, .string c.e.body] 67)
 have hB2 := below_boxV (w.alloc (Obj.cells #[.string c.e.q, .int .u64 c.e.id, .string c.e.p.key, .bool c.e.p.dur, .bool c.e.p.red, .string c.e.p.id, .int .u8 c.x.k, .int .u64 c.x.n, .string c.x.s, .slice c.x.a3 c.x.n3 c.x.c3, .slice c.x.a4 c.x.n4 c.x.c4, .string c.e.body] 67)) (Obj.cells #[.string c'.e.q, .int .u64 c'.e.id, .string c'.e.p.key, .bool c'.e.p.dur, .bool c'.e.p.red, .string c'.e.p.id, .int .u8 c'.x.k, .int .u64 c'.x.n, .string c'.x.s, .slice c'.x.a3 c'.x.n3 c'.x.c3, .slice c'.x.a4 c'.x.n4 c'.x.c4, .string c'.e.body] 67)
 have hX2 := BoxT.new (c := c') (w.alloc (Obj.cells #[.string c.e.q, .int .u64 c.e.id, .string c.e.p.key, .bool c.e.p.dur, .bool c.e.p.red, .string c.e.p.id, .int .u8 c.x.k, .int .u64 c.x.n, .string c.x.s, .slice c.x.a3 c.x.n3 c.x.c3, .slice c.x.a4 c.x.n4 c.x.c4, .string c.e.body] 67))
 rw [World.size_alloc] at hX2
 exact ⟨BoxT.kept (BoxT.new w) hB2 (Nat.le_refl _), hX2, hB1.trans (hB2.mono hB1.size)⟩
structure TwoE (w : World) (x y : EntC) (wx : World) : Prop where
  a : BoxE wx w.heap.size x
  b : BoxE wx (w.heap.size + 1) y
  bel : Below w.heap.size w wx
theorem TwoE.step {w wx wy : World} {x y : EntC} (h : TwoE w x y wx) (hb : Below wx.heap.size wx wy) : TwoE w x y wy := ⟨h.a.kept hb (Nat.le_refl _), h.b.kept hb (Nat.le_refl _), h.bel.trans (hb.mono h.bel.size)⟩
theorem TwoE.new (w : World) (x y : EntC) : TwoE w x y ((w.alloc (Obj.cells #[.int .u8 x.k, .string x.name, .int .u64 x.n, .int .u32 x.xf, .string x.xg, .string x.xh, .slice x.A1 x.cs.length x.c1, .slice x.A2 x.rs.length x.c2] 29)).alloc (Obj.cells #[.int .u8 y.k, .string y.name, .int .u64 y.n, .int .u32 y.xf, .string y.xg, .string y.xh, .slice y.A1 y.cs.length y.c1, .slice y.A2 y.rs.length y.c2] 29)) := by
 have hB1 := below_boxV w (Obj.cells #[.int .u8 x.k, .string x.name, .int .u64 x.n, .int .u32 x.xf, .string x.xg, .string x.xh, .slice x.A1 x.cs.length x.c1, .slice x.A2 x.rs.length x.c2] 29)
 have hB2 := below_boxV (w.alloc (Obj.cells #[.int .u8 x.k, .string x.name, .int .u64 x.n, .int .u32 x.xf, .string x.xg, .string x.xh, .slice x.A1 x.cs.length x.c1, .slice x.A2 x.rs.length x.c2] 29)) (Obj.cells #[.int .u8 y.k, .string y.name, .int .u64 y.n, .int .u32 y.xf, .string y.xg, .string y.xh, .slice y.A1 y.cs.length y.c1, .slice y.A2 y.rs.length y.c2] 29)
 have hX2 := BoxE.new (x := y) (w.alloc (Obj.cells #[.int .u8 x.k, .string x.name, .int .u64 x.n, .int .u32 x.xf, .string x.xg, .string x.xh, .slice x.A1 x.cs.length x.c1, .slice x.A2 x.rs.length x.c2] 29))
 rw [World.size_alloc] at hX2
 exact ⟨BoxE.kept (BoxE.new w) hB2 (Nat.le_refl _), hX2, hB1.trans (hB2.mono hB1.size)⟩
end Go.Proofs.YtdklhcmoilcpgaaGreat
namespace Go.Proofs.YtdklhcmoilcpgaaGreat
open Go.RowKit
set_option maxRecDepth 100000
def hC1 : EntC := ⟨1, ⟨#[113]⟩, 9, 0, ⟨#[]⟩, ⟨#[]⟩, none, 0, [], none, 0, []⟩
def hC3 : EntC := ⟨1, ⟨#[113]⟩, 0, 0, ⟨#[]⟩, ⟨#[]⟩, none, 0, [], none, 0, []⟩
def hE2 : EntE := ⟨6, ⟨#[]⟩, 0, 7, ⟨#[97]⟩, ⟨#[]⟩, [], []⟩
theorem hC1_shows (w : World) : ShowsE w hC1 := ⟨by decide, by decide, by decide, by decide, by decide, by decide, RowP.nil _, RowR.nil _⟩
theorem hC3_shows (w : World) : ShowsE w hC3 := ⟨by decide, by decide, by decide, by decide, by decide, by decide, RowP.nil _, RowR.nil _⟩
theorem hC1_valid : validE hC1.e := by
 refine ⟨by decide, ?_, ?_, ?_, ?_⟩
 ·unfold nameIs; rw [if_pos (by decide)]; decide
 ·unfold numIs; rw [if_pos (by decide)]; decide
 ·unfold xidIs; rw [if_neg (by decide)]; exact ⟨rfl, rfl, rfl⟩
 ·unfold workIs; rw [if_neg (by decide)]; exact ⟨rfl, rfl⟩
theorem hC3_not : ¬ validE hC3.e := fun h => by
 have h2 := h.2.2.1
 unfold numIs at h2
 rw [if_pos (by decide)] at h2
 exact absurd h2 (by decide)
theorem hE2_valid : validE hE2 := by
 refine ⟨by decide, ?_, ?_, ?_, ?_⟩
 ·unfold nameIs; rw [if_neg (by decide)]; rfl
 ·unfold numIs; rw [if_neg (by decide)]; rfl
 ·unfold xidIs; rw [if_pos (by decide)]; unfold mayX; decide
 ·unfold workIs; rw [if_neg (by decide)]; exact ⟨rfl, rfl⟩
theorem enc_h1 : encE hC1.e = [1, 1, 113, 0, 0, 0, 0, 0, 0, 0, 9] := by decide +kernel
theorem enc_h2 : encE hE2 = [6, 0, 0, 0, 7, 1, 97, 0] := by decide +kernel
theorem get_h2 : getE (sb ⟨#[6, 0, 0, 0, 7, 1, 97, 0]⟩) = some hE2 := by
 have := getE_enc hE2_valid (by decide)
 rw [enc_h2] at this
 exact this
theorem nil_few : Few [] := fun j hj => absurd hj (by simp)
set_option maxHeartbeats 4000000 in
theorem ehead_any (w : World) : Calls Tryz.prog 9 #[] w fun e w' => e = .returned (.bool true) ∧ Below w.heap.size w w' := by
 have hp := fun w => eput_any hC1 w (hC1_shows w) nil_few
 rw [putE_ok hC1_valid, errE_ok hC1_valid, enc_h1] at hp
 have hc := fun w => echeck_any hC3 w (hC3_shows w) nil_few
 rw [errE_no hC3_not] at hc
 have hg := fun w => eget_any ⟨#[6, 0, 0, 0, 7, 1, 97, 0]⟩ w (by decide)
 unfold EGetSaid at hg
 rw [get_h2] at hg
 have hq1 := fun w => qname_any ⟨#[113]⟩ w (by decide)
 have hq2 := fun w => qname_any ⟨#[97, 32, 98]⟩ w (by decide)
 rw [show qnOK ⟨#[113]⟩ = true from by decide] at hq1
 rw [show qnOK ⟨#[97, 32, 98]⟩ = false from by decide] at hq2
 unfold entV hC1 at hp
 unfold entV hC3 at hc
 unfold entV at hg
 simp only [] at hp hc
 have HP := Lib.hid hp
 have HC := Lib.hid hc
 have HG := Lib.hid hg
 have HQ1 := Lib.hid hq1
 have HQ2 := Lib.hid hq2
 clear hp hc hg hq1 hq2
 go_enter Tryz.func9, Tryz.ntmps9
 go_wp2_with fail
 refine (HP.out _).mono ?_
 rintro e w1 ⟨rfl, hb1⟩
 go_wp2_with fail
 refine (HG.out _).mono ?_
 rintro e w2 ⟨x, E, rfl, hsx, _, hb2, hor⟩
 obtain ⟨hxe, rfl⟩ : some hE2 = some x.e ∧ E = 0 := by
  rcases hor with h | h
  ·exact absurd h.1 (by simp)
  ·exact h
 have hxe2 : hE2 = x.e := Option.some.inj hxe
 obtain ⟨k, name, n, xf, xg, xh, A1, c1, cs, A2, c2, rs⟩ := x
 unfold EntC.e hE2 at hxe2
 simp only [EntE.mk.injEq] at hxe2
 obtain ⟨rfl, rfl, rfl, rfl, rfl, rfl, _, _⟩ := hxe2
 clear hsx hor hxe
 simp only []
 have hA := below_boxV w2 (Obj.cells #[.int .u8 ((6 : Nat) : Int), .string ⟨#[]⟩, .int .u64 ((0 : Nat) : Int), .int .u32 ((7 : Nat) : Int), .string ⟨#[97]⟩, .string ⟨#[]⟩, .slice A1 cs.length c1, .slice A2 rs.length c2] 29)
 have hX := BoxE.new (x := ⟨6, ⟨#[]⟩, 0, 7, ⟨#[97]⟩, ⟨#[]⟩, A1, c1, cs, A2, c2, rs⟩) w2
 have HB2 := Lib.hid ((hb1.trans (hb2.mono hb1.size)).trans (hA.mono (by have := hb1.size; have := hb2.size; omega)))
 have HX := Lib.hid hX
 clear hb1 hb2 hA hX
 go_wp2_with fail
 refine (HC.out _).mono ?_
 rintro e w3 ⟨rfl, hb3⟩
 have hX3 := HX.out.kept hb3 (Nat.le_refl _)
 have hbx := hX3.cells
 simp only [] at hbx
 obtain ⟨⟨e0, e1, e2⟩, ⟨e3, e4, e5⟩, e6, e7⟩ := hbx
 have HB4 := Lib.hid (HB2.out.trans (hb3.mono HB2.out.size))
 have hstr : (str8 [1, 1, 113, 0, 0, 0, 0, 0, 0, 0, 9]).toList = [1, 1, 113, 0, 0, 0, 0, 0, 0, 0, 9] := str8_toList _
 have hGd := xidGuard
 have hEq := fun w => run_eq_xid 7 7 ⟨#[97]⟩ ⟨#[]⟩ ⟨#[97]⟩ ⟨#[]⟩ w
 rw [show decide (((7 : Nat), (⟨#[97]⟩ : ByteArray), (⟨#[]⟩ : ByteArray)) = (7, ⟨#[97]⟩, ⟨#[]⟩)) = true from by simp] at hEq
 simp only [Int.cast_ofNat_Int] at e0 e1 e2 e3 hEq
 clear hX3 hb3
 go_wp2_with fail
 refine (HQ1.out _).mono ?_
 rintro e w4 ⟨rfl, rfl⟩
 go_wp2_with fail
 refine (HQ2.out _).mono ?_
 rintro e w5 ⟨rfl, rfl⟩
 go_wp2_with fail
 go_ret
 exact ⟨rfl, HB4.out⟩
end Go.Proofs.YtdklhcmoilcpgaaGreat
