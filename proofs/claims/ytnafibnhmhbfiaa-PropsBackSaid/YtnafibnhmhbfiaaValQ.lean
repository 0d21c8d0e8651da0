/-
  The contracts of the law's own head and of the document's Small.
  Conditions: none but sizes.
-/
import Derived.Test.YtnafibnhmhbfiaaValP
import Derived.Test.YtnafibnhmhbfiaaV5E
namespace Go.Proofs.Ytnafibnhmhbfiaa
open Go.RowKit
set_option linter.unusedVariables false
set_option linter.unusedSimpArgs false

def tB (n : Nat) : Tree := .node 8 n ⟨#[]⟩ [] []
def tV : Tree := .node 240 0 ⟨#[]⟩ [] []
def tL : Tree := .node 169 0 ⟨#[]⟩ [] [tB 1, tV]
theorem rk_nil (k : Nat) (n : Nat) (h : (layD k).keys = false) : rightKeys k [] n := by unfold rightKeys; rw [if_neg (by rw [h]; simp)]
theorem valid_leaf {t : Tree} (hl : t.l = []) (h : headOK t) : validT t = true := by rw [validT_eq, (headB_iff t).2 h, hl]; rfl
theorem valid_tB : validT (tB 1) = true := valid_leaf rfl ⟨rfl, by decide, by decide, fun _ => rfl, by decide, rk_nil _ _ rfl⟩
theorem valid_tV : validT tV = true := valid_leaf rfl ⟨rfl, by decide, by decide, fun _ => rfl, by decide, rk_nil _ _ rfl⟩
theorem valid_tL : validT tL = true := by
  have hh : headOK tL := ⟨rfl, by decide, by decide, fun h => by exact absurd h (by decide), by decide, rk_nil _ _ rfl⟩
  rw [validT_eq, (headB_iff tL).2 hh]
  show (validT (tB 1) && (validT tV && true)) = true
  rw [valid_tB, valid_tV]
  rfl
theorem check_tL : checkT tL = 0 := by
  unfold checkT
  rw [if_neg (by decide), if_neg (by decide), valid_tL]
  rfl
theorem check_tV : checkT tV = 0 := by
  unfold checkT
  rw [if_neg (by decide), if_neg (by decide), valid_tV]
  rfl
theorem check_tB2 : checkT (tB 2) = 50 := by
  have : validT (tB 2) = false := validT_no (fun h => by have := h.2.1; exact absurd this (by decide))
  unfold checkT
  rw [if_neg (by decide), if_neg (by decide), this]
  rfl
theorem bytes_tL : bytesT tL = [169, 0, 0, 0, 7, 0, 0, 0, 2, 8, 1, 240] := by decide
theorem get_VV : getP [240, 240] = some (tV, 1) := by
  have h := get_put check_tV [240]
  have e : bytesT tV = [240] := by decide
  rw [e] at h
  exact h

theorem shows_leaf (w : World) (k n : Nat) (hk : k < 256) (hn : n < 18446744073709551616) : ShowsT w (.node k n ⟨#[]⟩ [] []) [.int .u8 k, .int .u64 n, .string ⟨#[]⟩, .slice none 0 0, .slice none 0 0] :=
  ShowsT.make (ks := []) (l := []) hk hn (ShowsG.nil_ _ _ 0) (by simp) (by simp) (Nat.zero_le _) (ListT.nil _)

theorem shows_fr {w : World} {e : TypeId} {fr : Nat × Nat} : Shows (w.alloc (.cells #[.int .u8 240, .int .u8 240] e fr)) w.heap.size (.slice (some ⟨w.heap.size, 0, none⟩) 2 2) [240, 240] := by
  refine ⟨_, 2, rfl, by simp, by simp [maxLen], fun hp => ⟨0, rfl, by simp, fun j hj => ?_⟩⟩
  rw [cell_of_row _ _ (0 + j) _ e fr (heap_alloc_new w _)]
  match j, hj with
  | 0, _ => rfl
  | 1, _ => rfl

set_option maxRecDepth 100000 in
set_option maxHeartbeats 1000000 in
theorem head_any (w : World) : Calls Try.prog 19 #[] w fun e w' => e = .returned (.bool true) ∧ Below w.heap.size w w' := by
  obtain ⟨W1, hW1⟩ : ∃ W1, W1 = w.alloc (Obj.cells #[.int .u8 8, .int .u64 1, .string ⟨#[]⟩, .slice none 0 0, .slice none 0 0, .int .u8 240, .int .u64 0, .string ⟨#[]⟩, .slice none 0 0, .slice none 0 0] 27) := ⟨_, rfl⟩
  have hb1 : Below w.heap.size w W1 := by rw [hW1]; exact (Below.refl _ _).alloc (Nat.le_refl _) _
  have hblk : W1.heap[w.heap.size]? = some (.cells #[.int .u8 8, .int .u64 1, .string ⟨#[]⟩, .slice none 0 0, .slice none 0 0, .int .u8 240, .int .u64 0, .string ⟨#[]⟩, .slice none 0 0, .slice none 0 0] 27 (0, 0)) := by rw [hW1]; exact heap_alloc_new _ _
  have hs1 : W1.heap.size = w.heap.size + 1 := by rw [hW1]; simp
  have hc : ∀ i, W1.cell? ⟨w.heap.size, i, none⟩ = (#[Value.int .u8 8, .int .u64 1, .string ⟨#[]⟩, .slice none 0 0, .slice none 0 0, .int .u8 240, .int .u64 0, .string ⟨#[]⟩, .slice none 0 0, .slice none 0 0] : Array Value)[i]? := fun i => by rw [cell_of_row W1 _ i _ 27 (0, 0) hblk]
  have hlist : ListT W1 [tB 1, tV] (some ⟨w.heap.size, 0, none⟩) 2 := by
    refine ⟨by simp, by simp, by simp [maxLen], fun j hj => ?_⟩
    match j, hj with
    | 0, _ => exact ⟨w.heap.size, 0, _, _, _, _, _, rfl, by omega, shows_leaf W1 8 1 (by decide) (by decide), hc 0, hc 1, hc 2, hc 3, hc 4⟩
    | 1, _ => exact ⟨w.heap.size, 0, _, _, _, _, _, rfl, by omega, shows_leaf W1 240 0 (by decide) (by decide), hc 5, hc 6, hc 7, hc 8, hc 9⟩
  have hshow : ShowsT W1 tL [.int .u8 (169 : Nat), .int .u64 (0 : Nat), .string ⟨#[]⟩, .slice none 0 0, .slice (some ⟨w.heap.size, 0, none⟩) 2 2] := ShowsT.make (ks := []) (l := [tB 1, tV]) (by decide) (by decide) (ShowsG.nil_ _ _ 0) (by simp) (by simp) (Nat.zero_le _) hlist
  have hput := put_ok tL _ W1 hshow check_tL
  rw [bytes_tL] at hput
  have HPUT := Lib.hid hput
  have hcheck := Lib.hid (fun w => check_any (tB 2) _ w (shows_leaf w 8 2 (by decide) (by decide)))
  rw [check_tB2] at hcheck
  have hget := Lib.hid (fun v d w (h : Shows w d v [240, 240]) => get_any v d [240, 240] w h (by decide))
  rw [get_VV] at hget
  have hW1' := Lib.hid hW1
  clear hput hshow hlist hc hblk
  go_enter Try.func19, Try.ntmps19
  go_wp2_with fail
  rw [← hW1]
  clear hW1
  refine HPUT.out.mono ?_
  rintro e w2 ⟨v2, rfl, ho2, hb2⟩
  obtain ⟨g2, hg2, hs2⟩ := ho2.shows
  have hbw2 := hb1.trans (hb2.mono hb1.size)
  have hcv := Lib.run_convert_bytes_const w2 46 5 #[.int .u8 240, .int .u8 240] 2 2 Try.underlying46 Try.underlying5
  have hcv2 := fun w' (h : Below w2.heap.size w2 w') => conv_at (hs2.keep h.size (fun hp => h.block g2 (hs2.lt hp)))
  have hA2 : Below w2.heap.size w2 (w2.alloc (Obj.cells #[.int .u8 240, .int .u8 240] 5 (2, 3))) := (Below.refl _ _).alloc (Nat.le_refl _) _
  have hsh2 := shows_fr (w := w2) (e := 5) (fr := (2, 3))
  have HG := Lib.hid (hget.out _ _ _ hsh2)
  have HCV2 := Lib.hid hcv2
  clear hcv2 hsh2
  go_wp2_with fail
  refine HG.out.mono ?_
  rintro e w3 ⟨hb3, vs, rfl, hsh3⟩
  obtain ⟨kv, A, c, d0, d1, cs, rfl, _, _, hks, _⟩ := hsh3.open
  obtain ⟨A3, c3, rfl⟩ := str_form hks
  have hb23 : Below w2.heap.size w2 w3 := hA2.trans (hb3.mono hA2.size)
  have hbw3 := hbw2.trans (hb23.mono hbw2.size)
  have hk240 : tV.k = 240 := rfl
  have hbA : Below w3.heap.size w3 (w3.alloc (Obj.cells #[.int .u8 tV.k, .int .u64 tV.n, .string tV.s, .slice A3 tV.ks.length c3, .slice A tV.l.length c] 27)) := below_boxV _ _
  have hX := BoxV.new (v0 := .int .u8 tV.k) (v1 := .int .u64 tV.n) (v2 := .string tV.s) (v3 := .slice A3 tV.ks.length c3) (v4 := .slice A tV.l.length c) w3
  have hbw4 := hbw3.trans (hbA.mono hbw3.size)
  have hb24 := hb23.trans (hbA.mono hb23.size)
  have HB24 := Lib.hid hb24
  clear hb24 hsh3 hks
  go_wp2_with fail
  refine (hcheck.out _).mono ?_
  rintro e w5 ⟨rfl, hb5⟩
  have hX5 := hX.kept hb5 (Nat.le_refl _)
  have x0 := hX5.c0
  have hcv5 := HCV2.out w5 (HB24.out.trans (hb5.mono HB24.out.size))
  have hstr : (str8 [169, 0, 0, 0, 7, 0, 0, 0, 2, 8, 1, 240]).toList = [169, 0, 0, 0, 7, 0, 0, 0, 2, 8, 1, 240] := str8_toList _
  clear hX hbA
  go_wp2_with fail
  go_ret
  exact ⟨rfl, hbw4.trans (hb5.mono hbw4.size)⟩

set_option maxRecDepth 100000 in
set_option maxHeartbeats 1000000 in
/-- What is small has at most 400 values, and 20000 bytes and keys. -/
theorem small_any (t : Tree) (vs : List Value) (w : World) (h : ShowsT w t vs) :
    Calls Try.prog 23 #[.agg vs.toArray] w fun e w' => ∃ r : Bool, e = .returned (.bool r) ∧ (r = true → cntT t ≤ 400 ∧ wgtT t ≤ 20000) ∧ Below w.heap.size w w' := by
  have HL := Lib.hid (fun w' (hw' : Below w.heap.size w w') => qleft_any 400 t vs w' (h.kept hw' (Nat.le_refl _)) (by omega))
  have HD := Lib.hid (fun w' (hw' : Below w.heap.size w w') => qdeep_any 40 t vs w' (h.kept hw' (Nat.le_refl _)) (by omega))
  have HS := Lib.hid (fun w' (hw' : Below w.heap.size w w') => qsmall_main _ t vs 20000 w' rfl (h.kept hw' (Nat.le_refl _)) (by omega))
  obtain ⟨k0, n0, s0, a3, n3, c3, a4, n4, c4, rfl⟩ := h.cells5
  have hX := BoxV.new (v0 := .int .u8 k0) (v1 := .int .u64 n0) (v2 := .string s0) (v3 := .slice a3 n3 c3) (v4 := .slice a4 n4 c4) w
  have hBX := below_boxV w (Obj.cells #[.int .u8 k0, .int .u64 n0, .string s0, .slice a3 n3 c3, .slice a4 n4 c4] 27)
  have hr1 := remD_cases 400 (cntT t)
  have hr2 := remD_cases 20000 (wgtT t)
  have HR1 := Lib.hid hr1
  have HR2 := Lib.hid hr2
  generalize remD 400 (cntT t) = r1 at *
  generalize remD 20000 (wgtT t) = r2 at *
  generalize deepD 40 t = dp at *
  have HX := Lib.hid hX
  have HBX := Lib.hid hBX
  clear h hX hBX hr1 hr2
  go_enter Try.func23, Try.ntmps23
  go_wp2_with fail
  refine (HL.out _ HBX.out).mono ?_
  rintro e w1 ⟨rfl, hb1⟩
  have hX1 := HX.out.kept hb1 (Nat.le_refl _)
  have hB1 := HBX.out.trans (hb1.mono HBX.out.size)
  have x0 := hX1.c0
  have x1 := hX1.c1
  have x2 := hX1.c2
  have x3 := hX1.c3
  have x4 := hX1.c4
  by_cases h1 : r1 < 0
  · go_wp2_with fail
    go_ret
    exact ⟨false, rfl, fun h => by simp at h, hB1⟩
  · have HX1 := Lib.hid hX1
    have HB1 := Lib.hid hB1
    clear hX1 hB1
    go_wp2_with fail
    refine (HD.out _ HB1.out).mono ?_
    rintro e w2 ⟨rfl, hb2⟩
    have hX2 := HX1.out.kept hb2 (Nat.le_refl _)
    have hB2 := HB1.out.trans (hb2.mono HB1.out.size)
    clear x0 x1 x2 x3 x4
    have x0 := hX2.c0
    have x1 := hX2.c1
    have x2 := hX2.c2
    have x3 := hX2.c3
    have x4 := hX2.c4
    have HX2 := Lib.hid hX2
    have HB2 := Lib.hid hB2
    clear hX2 hB2
    cases dp with
    | true =>
      go_wp2_with fail
      go_ret
      exact ⟨false, rfl, fun h => by simp at h, HB2.out⟩
    | false =>
      go_wp2_with fail
      refine (HS.out _ HB2.out).mono ?_
      rintro e w3 ⟨rfl, hb3⟩
      go_wp2_with fail
      go_ret
      refine ⟨_, rfl, fun h => ?_, HB2.out.trans (hb3.mono HB2.out.size)⟩
      have h3 : 0 ≤ r2 := by simpa using h
      have := HR1.out
      have := HR2.out
      omega

end Go.Proofs.Ytnafibnhmhbfiaa
