/-
  Texts, together: MeE, MeF.
  Conditions: none but sizes.
-/
import Derived.Test.YtpbdnfonflmncaaGreatMeSZ
import Derived.Test.YtpbdnfonflmncaaGreatMePZ
import Derived.Test.YtpbdnfonflmncaaGreatMeCZ
import Derived.Test.YtpbdnfonflmncaaGreatValPZ
import Derived.Test.YtpbdnfonflmncaaGreatXiAZ
set_option linter.unusedVariables false
set_option linter.unusedSimpArgs false
namespace Go.Proofs.YtpbdnfonflmncaaGreat
open Go.RowKit
set_option maxRecDepth 100000 in
theorem width_any (k : Nat) (w : World) : Calls Tryz.prog 36 #[.int .u8 k] w fun e w' => e = .returned (.int .i64 (widD k)) ∧ w' = w := by
 by_cases h110 : k = 110
 ·subst h110
  go_enter Tryz.func36, Tryz.ntmps36
  go_wp2_with fail
  go_ret
  exact ⟨rfl, rfl⟩
 by_cases h115 : k = 115
 ·subst h115
  go_enter Tryz.func36, Tryz.ntmps36
  go_wp2_with fail
  go_ret
  exact ⟨rfl, rfl⟩
 by_cases h119 : k = 119
 ·subst h119
  go_enter Tryz.func36, Tryz.ntmps36
  go_wp2_with fail
  go_ret
  exact ⟨rfl, rfl⟩
 by_cases h116 : k = 116
 ·subst h116
  go_enter Tryz.func36, Tryz.ntmps36
  go_wp2_with fail
  go_ret
  exact ⟨rfl, rfl⟩
 by_cases h100 : k = 100
 ·subst h100
  go_enter Tryz.func36, Tryz.ntmps36
  go_wp2_with fail
  go_ret
  exact ⟨rfl, rfl⟩
 have e110 : ((k : Int) == 110) = false := by simp; omega
 have e115 : ((k : Int) == 115) = false := by simp; omega
 have e119 : ((k : Int) == 119) = false := by simp; omega
 have e116 : ((k : Int) == 116) = false := by simp; omega
 have e100 : ((k : Int) == 100) = false := by simp; omega
 have hs : widD k = 0 := by unfold widD; rw [if_neg h110, if_neg h115, if_neg h119, if_neg h116, if_neg h100]
 rw [hs]
 clear hs h110 h115 h119 h116 h100
 go_enter Tryz.func36, Tryz.ntmps36
 go_wp2_with fail
 go_ret
 exact ⟨rfl, rfl⟩
theorem great0 (w : World) : Calls Tryz.prog 52 #[.int .i64 0] w fun e w' => e = .returned (.int .u64 0) ∧ w' = w := by
 go_enter Tryz.func52, Tryz.ntmps52
 go_wp2_with fail
 go_ret
 exact ⟨rfl, rfl⟩
theorem great1 (w : World) : Calls Tryz.prog 52 #[.int .i64 1] w fun e w' => e = .returned (.int .u64 255) ∧ w' = w := by
 go_enter Tryz.func52, Tryz.ntmps52
 go_wp2_with fail
 go_ret
 exact ⟨rfl, rfl⟩
theorem great2 (w : World) : Calls Tryz.prog 52 #[.int .i64 2] w fun e w' => e = .returned (.int .u64 65535) ∧ w' = w := by
 go_enter Tryz.func52, Tryz.ntmps52
 go_wp2_with fail
 go_ret
 exact ⟨rfl, rfl⟩
theorem great4 (w : World) : Calls Tryz.prog 52 #[.int .i64 4] w fun e w' => e = .returned (.int .u64 4294967295) ∧ w' = w := by
 go_enter Tryz.func52, Tryz.ntmps52
 go_wp2_with fail
 go_ret
 exact ⟨rfl, rfl⟩
theorem isCmd_any (k : Nat) (w : World) : Calls Tryz.prog 19 #[.int .u8 k] w fun e w' => e = .returned (.bool (decide (k ≠ 1 ∧ k ≠ 2))) ∧ w' = w := by
 by_cases h1 : k = 1
 ·subst h1
  go_enter Tryz.func19, Tryz.ntmps19
  go_wp2_with fail
  go_ret
  exact ⟨rfl, rfl⟩
 by_cases h2 : k = 2
 ·subst h2
  go_enter Tryz.func19, Tryz.ntmps19
  go_wp2_with fail
  go_ret
  exact ⟨rfl, rfl⟩
 have e1 : ((k : Int) != 1) = true := by simp; omega
 have e2 : ((k : Int) != 2) = true := by simp; omega
 rw [decide_eq_true (And.intro h1 h2)]
 clear h1 h2
 go_enter Tryz.func19, Tryz.ntmps19
 go_wp2_with fail
 go_ret
 exact ⟨rfl, rfl⟩
theorem syncB_any (b : Bool) (w : World) : Calls Tryz.prog 20 #[.bool b] w fun e w' => e = .returned (.int .u64 (if b = true then 1 else 0 : Nat)) ∧ w' = w := by
 cases b
 ·go_enter Tryz.func20, Tryz.ntmps20
  go_wp2_with fail
  go_ret
  exact ⟨rfl, rfl⟩
 ·go_enter Tryz.func20, Tryz.ntmps20
  go_wp2_with fail
  go_ret
  exact ⟨rfl, rfl⟩
end Go.Proofs.YtpbdnfonflmncaaGreat
namespace Go.Proofs.YtpbdnfonflmncaaGreat
open Go.RowKit
section
variable {w w' : World} {b B : Nat} {a : ArgP} {qv v0 v1 v2 v3 v4 : Value}
theorem BoxG.setIs (h : BoxG w b a qv v0 v1 v2 v3 v4) (x : Bool) : BoxG (w.setCell ⟨b, 0, none⟩ (.bool x)) b { a with is := x } qv v0 v1 v2 v3 v4 := heap_setCell_same w b 0 _ 52 _ h
theorem BoxG.setN (h : BoxG w b a qv v0 v1 v2 v3 v4) (x : Nat) : BoxG (w.setCell ⟨b, 1, none⟩ (.int .u64 (x : Nat))) b { a with n := x } qv v0 v1 v2 v3 v4 := heap_setCell_same w b 1 _ 52 _ h
theorem BoxG.setS (h : BoxG w b a qv v0 v1 v2 v3 v4) (x : ByteArray) : BoxG (w.setCell ⟨b, 2, none⟩ (.string x)) b { a with s := x } qv v0 v1 v2 v3 v4 := heap_setCell_same w b 2 _ 52 _ h
theorem BoxG.setX (h : BoxG w b a qv v0 v1 v2 v3 v4) (f : Nat) (x y : ByteArray) : BoxG (((w.setCell ⟨b, 3, none⟩ (.int .u32 (f : Nat))).setCell ⟨b, 4, none⟩ (.string x)).setCell ⟨b, 5, none⟩ (.string y)) b { a with f := f, g := x, h := y } qv v0 v1 v2 v3 v4 :=
 heap_setCell_same _ b 5 _ 52 _ (heap_setCell_same _ b 4 _ 52 _ (heap_setCell_same w b 3 _ 52 _ h))
theorem BoxG.setQ (h : BoxG w b a qv v0 v1 v2 v3 v4) (u : Value) (x : List Sp) : BoxG (w.setCell ⟨b, 6, none⟩ u) b { a with q := x } u v0 v1 v2 v3 v4 := heap_setCell_same w b 6 _ 52 _ h
theorem BoxG.setV (h : BoxG w b a qv v0 v1 v2 v3 v4) (u0 u1 u2 u3 u4 : Value) (x : Tree) : BoxG (((((w.setCell ⟨b, 7, none⟩ u0).setCell ⟨b, 8, none⟩ u1).setCell ⟨b, 9, none⟩ u2).setCell ⟨b, 10, none⟩ u3).setCell ⟨b, 11, none⟩ u4) b { a with v := x } qv u0 u1 u2 u3 u4 :=
 heap_setCell_same _ b 11 _ 52 _ (heap_setCell_same _ b 10 _ 52 _ (heap_setCell_same _ b 9 _ 52 _ (heap_setCell_same _ b 8 _ 52 _ (heap_setCell_same w b 7 _ 52 _ h))))
end
theorem shows_zT (w : World) : ShowsT w zT [.int .u8 (0 : Nat), .int .u64 (0 : Nat), .string ⟨#[]⟩, .slice none 0 0, .slice none 0 0] := shows_leaf w 0 0 (by decide) (by decide)
theorem shows_zA (w : World) (d : Nat) : ShowsA w zA none 0 d (.int .u8 (0 : Nat)) (.int .u64 (0 : Nat)) (.string ⟨#[]⟩) (.slice none 0 0) (.slice none 0 0) :=
 ⟨⟨by decide, by decide, fun s hs => (by cases hs), by decide, by decide, by decide, by decide⟩, ShowsG.nil_ _ _ _, shows_zT w⟩
noncomputable def validB (k : Nat) (a : ArgP) : Bool := @decide (validA k a) (Classical.propDecidable _)
theorem validB_iff (k : Nat) (a : ArgP) : validB k a = true ↔ validA k a := by unfold validB; exact @decide_eq_true_iff _ (Classical.propDecidable _)
theorem validB_no {k : Nat} {a : ArgP} (h : ¬ validA k a) : validB k a = false := by unfold validB; exact @decide_eq_false _ (Classical.propDecidable _) h
theorem validB_is {k : Nat} {a : ArgP} (hk : k ≠ 98) (h : a.is = false) : validB k a = false := validB_no fun hv => by have := hv.1 hk; rw [h] at this; cases this
theorem validB_fit {k : Nat} {a : ArgP} (h : ¬ fitA k a) : validB k a = false := validB_no fun hv => h hv.2.1
theorem validB_of {k : Nat} {a cl : ArgP} (his : k ≠ 98 → a.is = true) (hf : fitA k a) (hb : cl = zA ↔ bareA k a) : validB k a = sameA cl zA := by
 rw [Bool.eq_iff_iff, validB_iff, sameA_iff, hb]
 exact ⟨fun h => h.2.2, fun h => ⟨his, hf, h⟩⟩
theorem zA_iff (is : Bool) (n : Nat) (s : ByteArray) (f : Nat) (g h : ByteArray) (q : List Sp) (v : Tree) : (⟨is, n, s, f, g, h, q, v⟩ : ArgP) = zA ↔ is = false ∧ n = 0 ∧ s = ⟨#[]⟩ ∧ (f = 0 ∧ g = ⟨#[]⟩ ∧ h = ⟨#[]⟩) ∧ q = [] ∧ v = zT := by
 unfold zA
 simp only [ArgP.mk.injEq]
 constructor
 ·rintro ⟨h1, h2, h3, h4, h5, h6, h7, h8⟩
  exact ⟨h1, h2, h3, ⟨h4, h5, h6⟩, h7, h8⟩
 ·rintro ⟨h1, h2, h3, ⟨h4, h5, h6⟩, h7, h8⟩
  exact ⟨h1, h2, h3, h4, h5, h6, h7, h8⟩
theorem fit_num {k : Nat} (a : ArgP) (hk : isNum k) : fitA k a ↔ a.n < 256 ^ widD k := by
 have nt : ¬ isTxt k := by rcases hk with rfl | rfl | rfl <;> decide
 have e : k ≠ 120 ∧ k ≠ 114 ∧ k ≠ 118 := by rcases hk with rfl | rfl | rfl <;> decide
 exact ⟨fun h => h.1 hk, fun h => ⟨fun _ => h, fun c => absurd c nt, fun c => absurd c e.1, fun c => absurd c e.2.1, fun c => absurd c e.2.2⟩⟩
theorem fit_txt {k : Nat} (a : ArgP) (hk : isTxt k) : fitA k a ↔ a.s.size < 256 ^ widD k := by
 have nt : ¬ isNum k := by rcases hk with rfl | rfl <;> decide
 have e : k ≠ 120 ∧ k ≠ 114 ∧ k ≠ 118 := by rcases hk with rfl | rfl <;> decide
 exact ⟨fun h => h.2.1 hk, fun h => ⟨fun c => absurd c nt, fun _ => h, fun c => absurd c e.1, fun c => absurd c e.2.1, fun c => absurd c e.2.2⟩⟩
theorem fit_x (a : ArgP) : fitA 120 a ↔ mayX a.g a.h := ⟨fun h => h.2.2.1 rfl, fun h => ⟨fun c => absurd c (by decide), fun c => absurd c (by decide), fun _ => h, fun c => absurd c (by decide), fun c => absurd c (by decide)⟩⟩
theorem fit_q (a : ArgP) : fitA 114 a ↔ canon a.q ∧ a.q.length ≤ 1000 := ⟨fun h => h.2.2.2.1 rfl, fun h => ⟨fun c => absurd c (by decide), fun c => absurd c (by decide), fun c => absurd c (by decide), fun _ => h, fun c => absurd c (by decide)⟩⟩
theorem fit_v (a : ArgP) : fitA 118 a ↔ checkT a.v = 0 := ⟨fun h => h.2.2.2.2 rfl, fun h => ⟨fun c => absurd c (by decide), fun c => absurd c (by decide), fun c => absurd c (by decide), fun c => absurd c (by decide), fun _ => h⟩⟩
theorem fit_b (a : ArgP) : fitA 98 a := ⟨fun c => absurd c (by decide), fun c => absurd c (by decide), fun c => absurd c (by decide), fun c => absurd c (by decide), fun c => absurd c (by decide)⟩
theorem bare_num {k : Nat} (a : ArgP) (hk : isNum k) : ({ a with is := false, n := 0 } : ArgP) = zA ↔ bareA k a := by
 have nt : ¬ isTxt k := by rcases hk with rfl | rfl | rfl <;> decide
 have e : k ≠ 120 ∧ k ≠ 114 ∧ k ≠ 118 := by rcases hk with rfl | rfl | rfl <;> decide
 rw [zA_iff]
 exact ⟨fun ⟨_, _, h3, h4, h5, h6⟩ => ⟨fun c => absurd hk c, fun _ => h3, fun _ => h4, fun _ => h5, fun _ => h6⟩, fun ⟨_, h2, h3, h4, h5⟩ => ⟨rfl, rfl, h2 nt, h3 e.1, h4 e.2.1, h5 e.2.2⟩⟩
theorem bare_txt {k : Nat} (a : ArgP) (hk : isTxt k) : ({ a with is := false, s := ⟨#[]⟩ } : ArgP) = zA ↔ bareA k a := by
 have nt : ¬ isNum k := by rcases hk with rfl | rfl <;> decide
 have e : k ≠ 120 ∧ k ≠ 114 ∧ k ≠ 118 := by rcases hk with rfl | rfl <;> decide
 rw [zA_iff]
 exact ⟨fun ⟨_, h2, _, h4, h5, h6⟩ => ⟨fun _ => h2, fun c => absurd hk c, fun _ => h4, fun _ => h5, fun _ => h6⟩, fun ⟨h1, _, h3, h4, h5⟩ => ⟨rfl, h1 nt, rfl, h3 e.1, h4 e.2.1, h5 e.2.2⟩⟩
theorem bare_x (a : ArgP) : ({ a with is := false, f := 0, g := ⟨#[]⟩, h := ⟨#[]⟩ } : ArgP) = zA ↔ bareA 120 a := by
 rw [zA_iff]
 exact ⟨fun ⟨_, h2, h3, _, h5, h6⟩ => ⟨fun _ => h2, fun _ => h3, fun c => absurd rfl c, fun _ => h5, fun _ => h6⟩, fun ⟨h1, h2, _, h4, h5⟩ => ⟨rfl, h1 (by decide), h2 (by decide), ⟨rfl, rfl, rfl⟩, h4 (by decide), h5 (by decide)⟩⟩
theorem bare_q (a : ArgP) : ({ a with is := false, q := [] } : ArgP) = zA ↔ bareA 114 a := by
 rw [zA_iff]
 exact ⟨fun ⟨_, h2, h3, h4, _, h6⟩ => ⟨fun _ => h2, fun _ => h3, fun _ => h4, fun c => absurd rfl c, fun _ => h6⟩, fun ⟨h1, h2, h3, _, h5⟩ => ⟨rfl, h1 (by decide), h2 (by decide), h3 (by decide), rfl, h5 (by decide)⟩⟩
theorem bare_v (a : ArgP) : ({ a with is := false, v := zT } : ArgP) = zA ↔ bareA 118 a := by
 rw [zA_iff]
 exact ⟨fun ⟨_, h2, h3, h4, h5, _⟩ => ⟨fun _ => h2, fun _ => h3, fun _ => h4, fun _ => h5, fun c => absurd rfl c⟩, fun ⟨h1, h2, h3, h4, _⟩ => ⟨rfl, h1 (by decide), h2 (by decide), h3 (by decide), h4 (by decide), rfl⟩⟩
theorem bare_b (a : ArgP) : ({ a with is := false } : ArgP) = zA ↔ bareA 98 a := by
 rw [zA_iff]
 exact ⟨fun ⟨_, h2, h3, h4, h5, h6⟩ => ⟨fun _ => h2, fun _ => h3, fun _ => h4, fun _ => h5, fun _ => h6⟩, fun ⟨h1, h2, h3, h4, h5⟩ => ⟨rfl, h1 (by decide), h2 (by decide), h3 (by decide), h4 (by decide), h5 (by decide)⟩⟩
end Go.Proofs.YtpbdnfonflmncaaGreat
