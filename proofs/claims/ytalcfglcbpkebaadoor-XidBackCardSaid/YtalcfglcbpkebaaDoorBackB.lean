/-
  XidBack: where the name is valid, the law returns true.
  Conditions: the table of powers of ten reads as the library lays it.
-/
import Derived.Test.YtalcfglcbpkebaaDoorBackA
namespace Go.Proofs.YtalcfglcbpkebaaDoor
open Go.ChangeShapes Go.WideShapes Go.ChangeAt Go.RowKit
set_option linter.unusedVariables false
set_option linter.unusedSimpArgs false

set_option maxRecDepth 100000 in
set_option maxHeartbeats 2000000 in
theorem back_yes_no (f : Nat) (g h : ByteArray) (A : Option Addr) (c d : Nat) (b : List UInt8) (s : ByteArray) (w : World) (hT : Tab w) (zf : f < 4294967296) (zg : g.size ≤ 140737488351232) (zh : h.size ≤ 140737488351232)
    (hv : Shows w d (.slice A b.length c) b) (hb : b.length ≤ 140737488351232) (hm : mayX g h) (hS1 : ∀ w, Calls Tryd.prog 23 #[.string s] w fun e w' => e = .returned (.tuple #[xidV 0 { data := #[] } { data := #[] }, .int .i64 5]) ∧ Below w.heap.size w w') :
    Calls Tryd.prog 8 #[xidV f g h, .slice A b.length c, .string s] w fun e w' => e = .returned (.bool true) ∧ Below w.heap.size w w' := by
  have H0 := Lib.hid (One.start (f1 := f) (g1 := g) (h1 := h) hT)
  have C6 := Lib.hid head_any
  have S1 := Lib.hid hS1
  have C1 := Lib.hid (fun w => put_ok f g h w hm zf)
  have C2 := Lib.hid (fun w hT => text_ok f g h w hm zf hT)
  have C3 := Lib.hid (fun w => check_ok f g h w hm)
  have C4 := Lib.hid (fun v d w hv => get_enc f g h b hm zf hb v d w hv)
  have C5 := Lib.hid (fun w => parse_text f g h hm zf w)
  have HL := Lib.hid (show (encX f g h).length ≤ 134 by obtain ⟨m1, m2, m3⟩ := hm; rw [encX_length]; omega)
  unfold xidV at *
  generalize encX f g h = E at *
  generalize str8 (textX f g h) = X at *
  have HB := Lib.hid hb
  clear hS1 hm zf zg zh hT hb
  go_enter Tryd.func8, Tryd.ntmps8
  go_wp2_with fail
  have hG := H0.out
  have hv := hv.keep (w' := w.alloc (Obj.cells #[.int .u32 f, .string g, .string h] 24)) (by simp) fun hp => Below.heap_alloc _ _ _ (hv.lt hp)
  generalize w.alloc (Obj.cells #[.int .u32 f, .string g, .string h] 24) = W at *
  refine (C1.out _).mono ?_
  rintro e w1 ⟨v1, rfl, ho1, hb1⟩
  have hG := hG.step hb1
  have hv := hv.keep hb1.size fun hp => hb1.block _ (hv.lt hp)
  have k0 := hG.a.c0
  have k1 := hG.a.c1
  have k2 := hG.a.c2
  go_wp2_with fail
  refine (C2.out _ hG.tab).mono ?_
  rintro e w2 ⟨rfl, hb2⟩
  have hG := hG.step hb2
  have ho1 := ho1.below_ hb2
  have hv := hv.keep hb2.size fun hp => hb2.block _ (hv.lt hp)
  clear k0 k1 k2
  have k0 := hG.a.c0
  have k1 := hG.a.c1
  have k2 := hG.a.c2
  go_wp2_with fail
  refine (C3.out _).mono ?_
  rintro e w3 ⟨rfl, hb3⟩
  have hG := hG.step hb3
  have ho1 := ho1.below_ hb3
  have hv := hv.keep hb3.size fun hp => hb3.block _ (hv.lt hp)
  clear k0 k1 k2
  obtain ⟨A1, c1, rfl, _⟩ := ho1.form
  obtain ⟨q1, _, s1⟩ := ho1.shows
  go_wp2_with (first
    | (at_builtin
       refine wpList_append8 _ rfl (.const (.slice none 0 0)) (.tmp 55) 31 rfl w3.heap.size 5 Tryd.underlying31 info5 (.slice none 0 0) [] rfl (Own.nil_ 5 _ _) q1 _ E rfl s1 (by have := HL.out; simp; omega) (Nat.le_refl _) ?_
       intro v4 w4 ho4 hg4
       rw [List.nil_append] at ho4
       have hb4 : Below w3.heap.size w3 w4 := (Below.refl _ _).grown hg4 (Nat.le_refl _) (fun k hk => by cases hk)
       have hv4 := hv.keep hb4.size fun hp => hb4.block _ (hv.lt hp))
    | (at_builtin
       refine wpList_big8 _ rfl (.tmp 56) (.tmp 57) 31 rfl w3.heap.size 5 Tryd.underlying31 info5 v4 E rfl ho4 d _ b rfl hv4 (by have := HL.out; have := HB.out; omega) hb4.size ?_
       intro v5 w5 ho5 hg5
       have hb5 : Below w3.heap.size w3 w5 := hb4.grown hg5 hb4.size (fun k hk => (ho4.block k hk).1)))
  have hG := hG.step hb5
  obtain ⟨q5, _, s5⟩ := ho5.shows
  refine (C4.out _ _ _ s5).mono ?_
  rintro e w6 ⟨rfl, hb6⟩
  have hG := hG.step hb6
  clear ho1 s1 ho4 hg4 hb4 hv4 hv ho5 hg5 hb5 s5
  go_wp2_with fail
  have hY := Boxed.new (f := f) (g := g) (h := h) w6
  have hG := hG.step (below_box w6 (Obj.cells #[.int .u32 f, .string g, .string h] 24))
  generalize w6.alloc (Obj.cells #[.int .u32 f, .string g, .string h] 24) = w7 at *
  refine (C5.out _).mono ?_
  rintro e w8 ⟨rfl, hb8⟩
  have hG := hG.step hb8
  have hY := hY.below hb8 hY.lt
  have k0 := hG.a.c0
  have k1 := hG.a.c1
  have k2 := hG.a.c2
  have kl := hG.a.lt
  have y0 := hY.c0
  have y1 := hY.c1
  have y2 := hY.c2
  have yl := hY.lt
  go_wp2_with fail
  have hG := hG.step (below_box w8 (Obj.cells #[.int .u32 f, .string g, .string h] 24))
  clear k0 k1 k2 kl y0 y1 y2 yl hY
  generalize w8.alloc (Obj.cells #[.int .u32 f, .string g, .string h] 24) = w9 at *
  refine (S1.out _).mono ?_
  rintro e x1 ⟨rfl, hc1⟩
  have hG := hG.step hc1
  go_wp2_with fail
  have hG := hG.step (below_box x1 (Obj.cells #[.int .u32 0, .string { data := #[] }, .string { data := #[] }] 24))
  generalize x1.alloc (Obj.cells #[.int .u32 0, .string { data := #[] }, .string { data := #[] }] 24) = x2 at *
  refine (C6.out _ hG.tab).mono ?_
  rintro e x3 ⟨rfl, hc3⟩
  have hG := hG.step hc3
  go_wp2_with fail
  go_ret
  exact ⟨rfl, hG.bel⟩

set_option maxRecDepth 100000 in
set_option maxHeartbeats 2000000 in
theorem back_yes_yes (f : Nat) (g h : ByteArray) (A : Option Addr) (c d : Nat) (b : List UInt8) (s : ByteArray) (w : World) (hT : Tab w) (zf : f < 4294967296) (zg : g.size ≤ 140737488351232) (zh : h.size ≤ 140737488351232)
    (hv : Shows w d (.slice A b.length c) b) (hb : b.length ≤ 140737488351232) (hm : mayX g h) (f4 : Nat) (g4 h4 : ByteArray) (hS1 : ∀ w, Calls Tryd.prog 23 #[.string s] w fun e w' => e = .returned (.tuple #[xidV f4 g4 h4, .int .i64 0]) ∧ Below w.heap.size w w') (hS2 : ∀ w, Tab w → Calls Tryd.prog 19 #[xidV f4 g4 h4] w fun e w' => e = .returned (.tuple #[.string s, .int .i64 0]) ∧ Below w.heap.size w w') :
    Calls Tryd.prog 8 #[xidV f g h, .slice A b.length c, .string s] w fun e w' => e = .returned (.bool true) ∧ Below w.heap.size w w' := by
  have H0 := Lib.hid (One.start (f1 := f) (g1 := g) (h1 := h) hT)
  have C6 := Lib.hid head_any
  have S1 := Lib.hid hS1
  have S2 := Lib.hid hS2
  have C1 := Lib.hid (fun w => put_ok f g h w hm zf)
  have C2 := Lib.hid (fun w hT => text_ok f g h w hm zf hT)
  have C3 := Lib.hid (fun w => check_ok f g h w hm)
  have C4 := Lib.hid (fun v d w hv => get_enc f g h b hm zf hb v d w hv)
  have C5 := Lib.hid (fun w => parse_text f g h hm zf w)
  have HL := Lib.hid (show (encX f g h).length ≤ 134 by obtain ⟨m1, m2, m3⟩ := hm; rw [encX_length]; omega)
  unfold xidV at *
  generalize encX f g h = E at *
  generalize str8 (textX f g h) = X at *
  have HB := Lib.hid hb
  clear hS1 hS2 hm zf zg zh hT hb
  go_enter Tryd.func8, Tryd.ntmps8
  go_wp2_with fail
  have hG := H0.out
  have hv := hv.keep (w' := w.alloc (Obj.cells #[.int .u32 f, .string g, .string h] 24)) (by simp) fun hp => Below.heap_alloc _ _ _ (hv.lt hp)
  generalize w.alloc (Obj.cells #[.int .u32 f, .string g, .string h] 24) = W at *
  refine (C1.out _).mono ?_
  rintro e w1 ⟨v1, rfl, ho1, hb1⟩
  have hG := hG.step hb1
  have hv := hv.keep hb1.size fun hp => hb1.block _ (hv.lt hp)
  have k0 := hG.a.c0
  have k1 := hG.a.c1
  have k2 := hG.a.c2
  go_wp2_with fail
  refine (C2.out _ hG.tab).mono ?_
  rintro e w2 ⟨rfl, hb2⟩
  have hG := hG.step hb2
  have ho1 := ho1.below_ hb2
  have hv := hv.keep hb2.size fun hp => hb2.block _ (hv.lt hp)
  clear k0 k1 k2
  have k0 := hG.a.c0
  have k1 := hG.a.c1
  have k2 := hG.a.c2
  go_wp2_with fail
  refine (C3.out _).mono ?_
  rintro e w3 ⟨rfl, hb3⟩
  have hG := hG.step hb3
  have ho1 := ho1.below_ hb3
  have hv := hv.keep hb3.size fun hp => hb3.block _ (hv.lt hp)
  clear k0 k1 k2
  obtain ⟨A1, c1, rfl, _⟩ := ho1.form
  obtain ⟨q1, _, s1⟩ := ho1.shows
  go_wp2_with (first
    | (at_builtin
       refine wpList_append8 _ rfl (.const (.slice none 0 0)) (.tmp 55) 31 rfl w3.heap.size 5 Tryd.underlying31 info5 (.slice none 0 0) [] rfl (Own.nil_ 5 _ _) q1 _ E rfl s1 (by have := HL.out; simp; omega) (Nat.le_refl _) ?_
       intro v4 w4 ho4 hg4
       rw [List.nil_append] at ho4
       have hb4 : Below w3.heap.size w3 w4 := (Below.refl _ _).grown hg4 (Nat.le_refl _) (fun k hk => by cases hk)
       have hv4 := hv.keep hb4.size fun hp => hb4.block _ (hv.lt hp))
    | (at_builtin
       refine wpList_big8 _ rfl (.tmp 56) (.tmp 57) 31 rfl w3.heap.size 5 Tryd.underlying31 info5 v4 E rfl ho4 d _ b rfl hv4 (by have := HL.out; have := HB.out; omega) hb4.size ?_
       intro v5 w5 ho5 hg5
       have hb5 : Below w3.heap.size w3 w5 := hb4.grown hg5 hb4.size (fun k hk => (ho4.block k hk).1)))
  have hG := hG.step hb5
  obtain ⟨q5, _, s5⟩ := ho5.shows
  refine (C4.out _ _ _ s5).mono ?_
  rintro e w6 ⟨rfl, hb6⟩
  have hG := hG.step hb6
  clear ho1 s1 ho4 hg4 hb4 hv4 hv ho5 hg5 hb5 s5
  go_wp2_with fail
  have hY := Boxed.new (f := f) (g := g) (h := h) w6
  have hG := hG.step (below_box w6 (Obj.cells #[.int .u32 f, .string g, .string h] 24))
  generalize w6.alloc (Obj.cells #[.int .u32 f, .string g, .string h] 24) = w7 at *
  refine (C5.out _).mono ?_
  rintro e w8 ⟨rfl, hb8⟩
  have hG := hG.step hb8
  have hY := hY.below hb8 hY.lt
  have k0 := hG.a.c0
  have k1 := hG.a.c1
  have k2 := hG.a.c2
  have kl := hG.a.lt
  have y0 := hY.c0
  have y1 := hY.c1
  have y2 := hY.c2
  have yl := hY.lt
  go_wp2_with fail
  have hG := hG.step (below_box w8 (Obj.cells #[.int .u32 f, .string g, .string h] 24))
  clear k0 k1 k2 kl y0 y1 y2 yl hY
  generalize w8.alloc (Obj.cells #[.int .u32 f, .string g, .string h] 24) = w9 at *
  refine (S1.out _).mono ?_
  rintro e x1 ⟨rfl, hc1⟩
  have hG := hG.step hc1
  go_wp2_with fail
  have hG := hG.step (below_box x1 (Obj.cells #[.int .u32 f4, .string g4, .string h4] 24))
  generalize x1.alloc (Obj.cells #[.int .u32 f4, .string g4, .string h4] 24) = x2 at *
  refine (S2.out _ hG.tab).mono ?_
  rintro e x3 ⟨rfl, hc3⟩
  have hG := hG.step hc3
  go_wp2_with fail
  refine (C6.out _ hG.tab).mono ?_
  rintro e x4 ⟨rfl, hc4⟩
  have hG := hG.step hc4
  go_wp2_with fail
  go_ret
  exact ⟨rfl, hG.bel⟩

end Go.Proofs.YtalcfglcbpkebaaDoor
