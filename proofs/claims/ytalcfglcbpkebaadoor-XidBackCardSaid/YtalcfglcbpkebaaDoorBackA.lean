/-
  XidBack: what Get and Parse answer at the bytes and the text of a name; where the name is not valid, the law returns true.
  Conditions: the table of powers of ten reads as the library lays it.
-/
import Derived.Test.YtalcfglcbpkebaaDoorPuts
import Derived.Test.YtalcfglcbpkebaaDoorGets
import Derived.Test.YtalcfglcbpkebaaDoorXiW
namespace Go.Proofs.YtalcfglcbpkebaaDoor
open Go.ChangeShapes Go.WideShapes Go.ChangeAt Go.RowKit
set_option linter.unusedVariables false
set_option linter.unusedSimpArgs false

/-- Get at a name's bytes, with more behind. -/
theorem get_enc (f : Nat) (g h : ByteArray) (L : List UInt8) (hm : mayX g h) (zf : f < 4294967296) (zL : L.length ≤ 140737488351232) (v : Value) (d : Nat) (w : World) (hv : Shows w d v (encX f g h ++ L)) :
    Calls Tryd.prog 21 #[v] w fun e w' => e = .returned (.tuple #[xidV f g h, .int .i64 ((encX f g h).length : Nat), .int .i64 0]) ∧ Below w.heap.size w w' := by
  have hl := encX_length f g h
  have hv' := hv
  obtain ⟨A, c, rfl, _⟩ := hv
  obtain ⟨m1, m2, m3⟩ := hm
  have := get_of A c d (encX f g h ++ L) (by rw [List.length_append]; omega) f (sb g) (sb h) _ (getD_enc f g h L ⟨m1, m2, m3⟩ zf) (by rw [str8_sb, str8_sb]; exact ⟨m1, m2, m3⟩) w hv'
  rw [str8_sb, str8_sb] at this
  exact this

/-- Parse of a name's text. -/
theorem parse_text (f : Nat) (g h : ByteArray) (hm : mayX g h) (zf : f < 4294967296) (w : World) :
    Calls Tryd.prog 23 #[.string (str8 (textX f g h))] w fun e w' => e = .returned (.tuple #[xidV f g h, .int .i64 0]) ∧ Below w.heap.size w w' := by
  obtain ⟨m1, m2, m3⟩ := hm
  have hl : (textX f g h).length ≤ 1000 := by
    unfold textX
    have := digD_length 19 f (by simp; omega)
    simp [hexD_length, sb_length]
    omega
  have := parse_any (str8 (textX f g h)) w (by rw [str8_size]; omega)
  rw [sb_str8, parsed_text f g h ⟨m1, m2, m3⟩ zf, if_neg (parsed_ne ⟨m1, m2, m3⟩)] at this
  simp only [str8_sb] at this
  exact this

/-- Parse of any string: no name, or the one whose text it is. -/
theorem parse_cases (s : ByteArray) (hs : s.size ≤ 140737488351232) :
    (∀ w, Calls Tryd.prog 23 #[.string s] w fun e w' => e = .returned (.tuple #[xidV 0 { data := #[] } { data := #[] }, .int .i64 5]) ∧ Below w.heap.size w w') ∨
    ∃ f g h, (∀ w, Calls Tryd.prog 23 #[.string s] w fun e w' => e = .returned (.tuple #[xidV f g h, .int .i64 0]) ∧ Below w.heap.size w w') ∧
      ∀ w, Tab w → Calls Tryd.prog 19 #[xidV f g h] w fun e w' => e = .returned (.tuple #[.string s, .int .i64 0]) ∧ Below w.heap.size w w' := by
  by_cases hp : parsedD (sb s) = (0, [], [])
  · refine .inl fun w => ?_
    have := parse_any s w hs
    rw [hp, if_pos rfl] at this
    exact this
  · obtain ⟨f, g, h, hm, hf, ht, hd⟩ := parsed_sound _ hp
    have e : s = str8 (textX f g h) := by rw [← ht, str8_sb]
    refine .inr ⟨f, g, h, fun w => ?_, fun w hT => ?_⟩
    · have := parse_any s w hs
      rw [if_neg hp, hd] at this
      simp only [str8_sb] at this
      exact this
    · have := text_ok f g h w hm hf hT
      rw [← e] at this
      exact this

set_option maxRecDepth 100000 in
set_option maxHeartbeats 2000000 in
theorem back_no_no (f : Nat) (g h : ByteArray) (A : Option Addr) (c d : Nat) (b : List UInt8) (s : ByteArray) (w : World) (hT : Tab w) (zf : f < 4294967296) (zg : g.size ≤ 140737488351232) (zh : h.size ≤ 140737488351232)
    (hv : Shows w d (.slice A b.length c) b) (hb : b.length ≤ 140737488351232) (hm : ¬ mayX g h) (hS1 : ∀ w, Calls Tryd.prog 23 #[.string s] w fun e w' => e = .returned (.tuple #[xidV 0 { data := #[] } { data := #[] }, .int .i64 5]) ∧ Below w.heap.size w w') :
    Calls Tryd.prog 8 #[xidV f g h, .slice A b.length c, .string s] w fun e w' => e = .returned (.bool true) ∧ Below w.heap.size w w' := by
  have H0 := Lib.hid (One.start (f1 := f) (g1 := g) (h1 := h) hT)
  have C6 := Lib.hid head_any
  have S1 := Lib.hid hS1
  have C1 := Lib.hid (fun w => put_no f g h w hm (by omega) (by omega))
  have C2 := Lib.hid (fun w => text_no f g h w hm (by omega) (by omega))
  have C3 := Lib.hid (fun w => check_no f g h w hm (by omega) (by omega))
  unfold xidV at *
  have HB := Lib.hid hb
  clear hS1 hm zf zg zh hT hb
  go_enter Tryd.func8, Tryd.ntmps8
  go_wp2_with fail
  have hG := H0.out
  have hv := hv.keep (w' := w.alloc (Obj.cells #[.int .u32 f, .string g, .string h] 24)) (by simp) fun hp => Below.heap_alloc _ _ _ (hv.lt hp)
  generalize w.alloc (Obj.cells #[.int .u32 f, .string g, .string h] 24) = W at *
  refine (C1.out _).mono ?_
  rintro e w1 ⟨rfl, hb1⟩
  have hG := hG.step hb1
  have k0 := hG.a.c0
  have k1 := hG.a.c1
  have k2 := hG.a.c2
  go_wp2_with fail
  refine (C2.out _).mono ?_
  rintro e w2 ⟨rfl, hb2⟩
  have hG := hG.step hb2
  clear k0 k1 k2
  have k0 := hG.a.c0
  have k1 := hG.a.c1
  have k2 := hG.a.c2
  go_wp2_with fail
  refine (C3.out _).mono ?_
  rintro e w3 ⟨rfl, hb3⟩
  have hG := hG.step hb3
  clear k0 k1 k2
  go_wp2_with fail
  refine (S1.out _).mono ?_
  rintro e x1 ⟨rfl, hc1⟩
  have hG := hG.step hc1
  go_wp2_with fail
  have hG := hG.step (below_box x1 (Obj.cells #[.int .u32 0, .string { data := #[] }, .string { data := #[] }] 24))
  generalize x1.alloc (Obj.cells #[.int .u32 0, .string { data := #[] }, .string { data := #[] }] 24) = x2 at *
  refine (C6.out _ hG.tab).mono ?_
  rintro e x3 ⟨rfl, hc3⟩
  have hG := hG.step hc3
  go_wp2_with fail
  go_ret
  exact ⟨rfl, hG.bel⟩

set_option maxRecDepth 100000 in
set_option maxHeartbeats 2000000 in
theorem back_no_yes (f : Nat) (g h : ByteArray) (A : Option Addr) (c d : Nat) (b : List UInt8) (s : ByteArray) (w : World) (hT : Tab w) (zf : f < 4294967296) (zg : g.size ≤ 140737488351232) (zh : h.size ≤ 140737488351232)
    (hv : Shows w d (.slice A b.length c) b) (hb : b.length ≤ 140737488351232) (hm : ¬ mayX g h) (f4 : Nat) (g4 h4 : ByteArray) (hS1 : ∀ w, Calls Tryd.prog 23 #[.string s] w fun e w' => e = .returned (.tuple #[xidV f4 g4 h4, .int .i64 0]) ∧ Below w.heap.size w w') (hS2 : ∀ w, Tab w → Calls Tryd.prog 19 #[xidV f4 g4 h4] w fun e w' => e = .returned (.tuple #[.string s, .int .i64 0]) ∧ Below w.heap.size w w') :
    Calls Tryd.prog 8 #[xidV f g h, .slice A b.length c, .string s] w fun e w' => e = .returned (.bool true) ∧ Below w.heap.size w w' := by
  have H0 := Lib.hid (One.start (f1 := f) (g1 := g) (h1 := h) hT)
  have C6 := Lib.hid head_any
  have S1 := Lib.hid hS1
  have S2 := Lib.hid hS2
  have C1 := Lib.hid (fun w => put_no f g h w hm (by omega) (by omega))
  have C2 := Lib.hid (fun w => text_no f g h w hm (by omega) (by omega))
  have C3 := Lib.hid (fun w => check_no f g h w hm (by omega) (by omega))
  unfold xidV at *
  have HB := Lib.hid hb
  clear hS1 hS2 hm zf zg zh hT hb
  go_enter Tryd.func8, Tryd.ntmps8
  go_wp2_with fail
  have hG := H0.out
  have hv := hv.keep (w' := w.alloc (Obj.cells #[.int .u32 f, .string g, .string h] 24)) (by simp) fun hp => Below.heap_alloc _ _ _ (hv.lt hp)
  generalize w.alloc (Obj.cells #[.int .u32 f, .string g, .string h] 24) = W at *
  refine (C1.out _).mono ?_
  rintro e w1 ⟨rfl, hb1⟩
  have hG := hG.step hb1
  have k0 := hG.a.c0
  have k1 := hG.a.c1
  have k2 := hG.a.c2
  go_wp2_with fail
  refine (C2.out _).mono ?_
  rintro e w2 ⟨rfl, hb2⟩
  have hG := hG.step hb2
  clear k0 k1 k2
  have k0 := hG.a.c0
  have k1 := hG.a.c1
  have k2 := hG.a.c2
  go_wp2_with fail
  refine (C3.out _).mono ?_
  rintro e w3 ⟨rfl, hb3⟩
  have hG := hG.step hb3
  clear k0 k1 k2
  go_wp2_with fail
  refine (S1.out _).mono ?_
  rintro e x1 ⟨rfl, hc1⟩
  have hG := hG.step hc1
  go_wp2_with fail
  have hG := hG.step (below_box x1 (Obj.cells #[.int .u32 f4, .string g4, .string h4] 24))
  generalize x1.alloc (Obj.cells #[.int .u32 f4, .string g4, .string h4] 24) = x2 at *
  refine (S2.out _ hG.tab).mono ?_
  rintro e x3 ⟨rfl, hc3⟩
  have hG := hG.step hc3
  go_wp2_with fail
  refine (C6.out _ hG.tab).mono ?_
  rintro e x4 ⟨rfl, hc4⟩
  have hG := hG.step hc4
  go_wp2_with fail
  go_ret
  exact ⟨rfl, hG.bel⟩

end Go.Proofs.YtalcfglcbpkebaaDoor
