/-
  Texts, together: EnF, EnG, EnH.
  Conditions: none but sizes.
-/
import Derived.Test.YtdklhcmoilcpgaaGreatEnBZ
import Derived.Test.YtdklhcmoilcpgaaGreatPrAZ
import Derived.Test.YtdklhcmoilcpgaaGreatValDZ
import Derived.Test.YtdklhcmoilcpgaaGreatXiOZ
import Derived.Test.YtdklhcmoilcpgaaGreatEnE0Z
set_option linter.unusedVariables false
set_option linter.unusedSimpArgs false
namespace Go.Proofs.YtdklhcmoilcpgaaGreat
open Go.RowKit
set_option maxRecDepth 100000
theorem etext_any (s : ByteArray) (q : Nat) (w : World) (hq : q = 1 ∨ q = 2 ∨ q = 4) (h : s.size < 256 ^ q) :
  Calls Tryz.prog 49 #[.string s, .int .i64 q] w fun e w' => ∃ v, e = .returned v ∧ Own 5 w' w.heap.size v (be q s.size ++ sb s) ∧ Below w.heap.size w w' := by
 have hz : s.size < 4294967296 := by rcases hq with rfl | rfl | rfl <;> omega
 have HP := Lib.hid (putText_any (.slice none 0 0) [] 0 q s w (Shows.nil_ _ _) (by simp; omega) hq h)
 rw [List.nil_append] at HP
 generalize be q s.size ++ sb s = X at *
 clear h hz hq
 go_enter Tryz.func49, Tryz.ntmps49
 go_wp2_with fail
 refine HP.out.mono ?_
 rintro e w1 ⟨v, rfl, ho, hb⟩
 go_wp2_with fail
 go_ret
 exact ⟨_, rfl, ho, hb⟩
theorem place_any (q : ByteArray) (id : Nat) (w : World) (h : q.size ≤ 255) :
  Calls Tryz.prog 55 #[.string q, .int .u64 id] w fun e w' => ∃ v, e = .returned v ∧ Own 5 w' w.heap.size v (placeB q id) ∧ Below w.heap.size w w' := by
 have HT := Lib.hid (fun w' => etext_any q 1 w' (by omega) (by omega))
 have hl : (be 1 q.size ++ sb q).length ≤ 256 := by rw [List.length_append, be_length, sb_length]; omega
 have HP := Lib.hid (fun w' v d (hs : Shows w' d v (be 1 q.size ++ sb q)) => put_any2 v _ d id 8 w' hs (by omega) (by omega))
 unfold placeB
 generalize be 1 q.size ++ sb q = X at *
 clear h hl
 go_enter Tryz.func55, Tryz.ntmps55
 go_wp2_with fail
 refine (HT.out _).mono ?_
 rintro e w1 ⟨v, rfl, ho, hb⟩
 obtain ⟨g1, _, hs1⟩ := ho.shows
 have HP1 := Lib.hid (HP.out _ _ _ hs1)
 clear hs1 ho
 go_wp2_with fail
 refine HP1.out.mono ?_
 rintro e w2 ⟨v2, rfl, ho2, hb2⟩
 go_wp2_with fail
 go_ret
 exact ⟨_, rfl, ho2.mono hb.size, hb.trans (hb2.mono hb.size)⟩
set_option maxHeartbeats 2000000 in
theorem enc2_any (r : RefE) (w : World) (h : r.q.size ≤ 255) :
  Calls Tryz.prog 57 #[refV r] w fun e w' => ∃ v, e = .returned v ∧ Own 5 w' w.heap.size v (refB r) ∧ Below w.heap.size w w' := by
 have HP := Lib.hid (fun w' => place_any r.q r.id w' h)
 unfold refB
 obtain ⟨q, id⟩ := r
 unfold refV
 simp only [] at HP ⊢
 generalize placeB q id = X at *
 have hB := below_boxV w (Obj.cells #[.string q, .int .u64 id] 48)
 obtain ⟨e0, e1⟩ := box2_cells w (.string q) (.int .u64 id) 48
 have HB := Lib.hid hB
 clear hB h
 go_enter Tryz.func57, Tryz.ntmps57
 go_wp2_with fail
 refine (HP.out _).mono ?_
 rintro e w1 ⟨v, rfl, ho, hb⟩
 go_wp2_with fail
 go_ret
 exact ⟨_, rfl, ho.mono HB.out.size, HB.out.trans (hb.mono HB.out.size)⟩
theorem row3 (w : World) (A B D : Option Addr) (c d k q m r : Nat) (x y z : List UInt8) : ShowsG partC8 (w.alloc (Obj.cells #[.slice A x.length c, .slice B y.length k, .slice D z.length m] 50)) w.heap.size (.slice (some ⟨w.heap.size, 0, none⟩) 3 3) [(A, c, d, x), (B, k, q, y), (D, m, r, z)] :=
 ShowsG.lit (C := partC8) [(A, c, d, x), (B, k, q, y), (D, m, r, z)] (by simp [Code.all, partC8]) (by simp [maxLen])
theorem cat3 (x y z : List UInt8) (A B D : Option Addr) (c d k q m r : Nat) : cat8 [(A, c, d, x), (B, k, q, y), (D, m, r, z)] = x ++ y ++ z := by simp [cat8]
structure AtT (w : World) (c : PutC) (wx : World) : Prop where
  bel : Below w.heap.size w wx
  box : BoxT wx w.heap.size c
theorem AtT.step {w wx wy : World} {c : PutC} (h : AtT w c wx) (hb : Below wx.heap.size wx wy) : AtT w c wy := ⟨h.bel.trans (hb.mono h.bel.size), h.box.kept hb (Nat.le_refl _)⟩
theorem AtT.drw {w wx : World} {c : PutC} (h : AtT w c wx) : AtT w c wx.drew := h.step (below_drew1 (Below.refl _ _))
theorem AtT.cs {w wx : World} {c : PutC} (h : AtT w c wx) : wx.cell? ⟨w.heap.size, 0, none⟩ = some (.string c.e.q) ∧ wx.cell? ⟨w.heap.size, 1, none⟩ = some (.int .u64 c.e.id) ∧ wx.cell? ⟨w.heap.size, 11, none⟩ = some (.string c.e.body) :=
 ⟨h.box.cells.1.1, h.box.cells.1.2.1, h.box.cells.2.2.2.2.2.2⟩
set_option maxHeartbeats 4000000 in
theorem enc1_any (c : PutC) (w : World) (h : PutAt w c) (hc : cntT c.e.p.app ≤ 1000000) (hm : putOK c.e) :
    Calls Tryz.prog 52 #[putV c] w fun e w' => ∃ v, e = .returned v ∧ Own 5 w' w.heap.size v (putB c.e) ∧ Below w.heap.size w w' := by
  have hq := qn_size hm.1
  have hbd := hm.2.1
  have hl := hm.2.2.2
  have hv := hm.2.2.1
  have HP := Lib.hid (fun w' (hb : Below w.heap.size w w') => pput_ok c.e.p _ _ _ _ _ w' (h.pr.kept hb (Nat.le_refl _)) hc hv)
  have HPL := Lib.hid (fun w' => place_any c.e.q c.e.id w' (by omega))
  have HT1 := Lib.hid (fun w' => etext_any (str8 (encPr c.e.p)) 4 w' (by omega) (by rw [str8_size]; omega))
  have HT2 := Lib.hid (fun w' => etext_any c.e.body 2 w' (by omega) (by omega))
  rw [str8_size, sb_str8] at HT1
  rw [show ((4 : Nat) : Int) = 4 from rfl] at HT1
  rw [show ((2 : Nat) : Int) = 2 from rfl] at HT2
  have hlen : (placeB c.e.q c.e.id).length + (be 4 (encPr c.e.p).length ++ encPr c.e.p).length + (be 2 c.e.body.size ++ sb c.e.body).length ≤ 20000 := by
    simp only [placeB_len, List.length_append, be_length, sb_length]; omega
  unfold putB
  obtain ⟨⟨q, id, ⟨key, dur, red, pid, app⟩, body⟩, ⟨k, n, ss, a3, n3, c3, a4, n4, c4⟩⟩ := c
  unfold putV
  unfold propV at HP
  simp only [] at HP HPL HT1 HT2 hlen ⊢
  generalize placeB q id = X1 at *
  generalize be 4 (encPr ⟨key, dur, red, pid, app⟩).length ++ encPr ⟨key, dur, red, pid, app⟩ = X2 at *
  generalize be 2 body.size ++ sb body = X3 at *
  generalize str8 (encPr ⟨key, dur, red, pid, app⟩) = S at *
  have hB := below_boxV w (Obj.cells #[.string q, .int .u64 id, .string key, .bool dur, .bool red, .string pid, .int .u8 k, .int .u64 n, .string ss, .slice a3 n3 c3, .slice a4 n4 c4, .string body] 67)
  have hX := BoxT.new (c := ⟨⟨q, id, ⟨key, dur, red, pid, app⟩, body⟩, ⟨k, n, ss, a3, n3, c3, a4, n4, c4⟩⟩) w
  obtain ⟨⟨e0, e1, e2, e3, e4, e5⟩, e6, e7, e8, e9, e10, e11⟩ := hX.cells
  simp only [] at e0 e1 e2 e3 e4 e5 e6 e7 e8 e9 e10 e11
  have HA := Lib.hid (AtT.mk hB hX)
  have HPX := Lib.hid (HP.out _ hB)
  have HL := Lib.hid hlen
  clear hB hX HP h hc hm hq hbd hl hv hlen
  go_enter Tryz.func52, Tryz.ntmps52
  go_wp2_with fail
  refine HPX.out.mono ?_
  rintro e w1 ⟨rfl, hb1⟩
  have hA1 := HA.out.step hb1
  clear e0 e1 e2 e3 e4 e5 e6 e7 e8 e9 e10 e11
  go_wp2_with fail
  go_region_held3 (fun w' => w'.cell? ⟨w.heap.size, 0, none⟩ = some (.string q) ∧ w'.cell? ⟨w.heap.size, 1, none⟩ = some (.int .u64 id) ∧ w'.cell? ⟨w.heap.size, 11, none⟩ = some (.string body)) (first | exact AtT.cs hA7 | exact AtT.cs hA6 | exact AtT.cs hA5 | exact AtT.cs hA4 | exact AtT.cs hA3 | exact AtT.cs hA1.drw | exact AtT.cs hA1)
    (first
      | (go_at_call 55
         refine (HPL.out _).mono ?_
         rintro e w3 ⟨v3, rfl, ho3, hb3⟩
         obtain ⟨A3, k3, rfl, _, _⟩ := ho3.form
         obtain ⟨g3, _, hs3⟩ := ho3.shows
         have hA3 := hA1.drw.step hb3)
      | (go_at_call 49
         first
           | (with_reducible refine (HT1.out _).mono ?_
              rintro e w4 ⟨v4, rfl, ho4, hb4⟩
              obtain ⟨A4, k4, rfl, _, _⟩ := ho4.form
              obtain ⟨g4, _, hs4⟩ := ho4.shows
              have hA4 := hA3.step hb4)
           | (with_reducible refine (HT2.out _).mono ?_
              rintro e w5 ⟨v5, rfl, ho5, hb5⟩
              obtain ⟨A5, k5, rfl, _, _⟩ := ho5.form
              obtain ⟨g5, _, hs5⟩ := ho5.shows
              have hA5 := hA4.step hb5
              have hA6 := hA5.step (below_boxV w5 (Obj.cells #[.slice A3 X1.length k3, .slice A4 X2.length k4, .slice A5 X3.length k5] 50))))
      | (go_at_call 54
         have hr := row3 w5 A3 A4 A5 k3 g3 k4 g4 k5 g5 X1 X2 X3
         have hb6 := below_boxV w5 (Obj.cells #[.slice A3 X1.length k3, .slice A4 X2.length k4, .slice A5 X3.length k5] 50)
         refine (concat8_any _ 3 3 _ _ _ rfl hr (by
           intro p hp
           simp only [List.mem_cons, List.not_mem_nil, or_false] at hp
           rcases hp with rfl | rfl | rfl
           · exact shows_farP (shows_farP (shows_farP hs3 hb4) hb5) hb6
           · exact shows_farP (shows_farP hs4 hb5) hb6
           · exact shows_farP hs5 hb6) (by rw [cat3]; simp only [List.length_append]; have := HL.out; omega)).mono ?_
         rintro e w7 ⟨v7, rfl, ho7, hb7⟩
         rw [cat3] at ho7
         have hA7 := hA6.step hb7))
  all_goals
    go_wp2_with fail
    go_ret
    exact ⟨_, rfl, ho7.mono hA6.bel.size, hA7.bel⟩
set_option maxHeartbeats 4000000 in
theorem encListPut_any (A : Option Addr) (c : Nat) (cs : List PutC) (w : World) (hr : RowP w A c cs) (hf : Few cs) (hm : ∀ j (h : j < cs.length), putOK cs[j].e) (hl : cs.length ≤ 100) :
    Calls Tryz.prog 51 #[.slice A cs.length c, .func (.func 52) #[] #[]] w fun e w' => ∃ v, e = .returned v ∧ Own 5 w' w.heap.size v (rowB putB (esOf cs)) ∧ Below w.heap.size w w' := by
  have hz : cs.length < 256 := by omega
  have HP := Lib.hid (fun w' => put_any2 (.slice none 0 0) [] 0 cs.length 1 w' (Shows.nil_ _ _) (by simp) (by omega))
  have HE := Lib.hid (fun j (hj : j < cs.length) w' (hb : Below w.heap.size w w') => enc1_any cs[j] w' ((hr.each j hj).kept hb (Nat.le_refl _)) (hf j hj) (hm j hj))
  have HT := Lib.hid (fun k (hk : k < cs.length) => show ((esOf cs).take (k + 1)).flatMap putB = ((esOf cs).take k).flatMap putB ++ putB cs[k].e from by rw [flat_snoc putB (esOf cs) k (by rw [esOf_len]; exact hk), esOf_get])
  have HL := Lib.hid (flat_le putB 20000 (esOf cs) (by
    intro p hp
    obtain ⟨c0, hc0, rfl⟩ := List.mem_map.1 hp
    obtain ⟨j, hj, rfl⟩ := List.getElem_of_mem hc0
    have h1 := qn_size (hm j hj).1
    have h2 := (hm j hj).2.1
    have h3 := (hm j hj).2.2.2
    rw [putB_len]; omega))
  have HLT := Lib.hid (fun k => flat_take_le putB (esOf cs) k)
  have hel : (esOf cs).length = cs.length := esOf_len cs
  have hcu : IntKind.u64.wrap (cs.length : Int) = (cs.length : Int) := by rw [IntKind.wrap_u64]; omega
  rw [List.nil_append] at HP
  unfold rowB
  rw [hel] at HL ⊢
  clear hel
  go_enter Tryz.func51, Tryz.ntmps51
  go_wp2_with fail
  refine (HP.out _).mono ?_
  rintro e w1 ⟨v1, rfl, ho1, hb1⟩
  go_wp2_with fail
  go_loopw [5, 14] (fun s i wr => ∃ k : Nat, k ≤ cs.length ∧ i = .int .i64 k ∧ Own 5 wr w.heap.size s (be 1 cs.length ++ ((esOf cs).take k).flatMap putB) ∧ Below w.heap.size w wr) (fun _ i _ => cs.length - (intOf i).toNat)
  case atStart => exact ⟨0, Nat.zero_le _, rfl, by simpa using ho1, hb1⟩
  case round =>
    rename World => x
    obtain ⟨k, hk, rfl, ho, hbw⟩ := hrel
    by_cases hlt : k < cs.length
    · obtain ⟨d, o, rfl, hd, ⟨e0, e1, e2, e3, e4, e5⟩, e6, e7, e8, e9, e10, e11⟩ := (hr.kept hbw (Nat.le_refl _)).at_ k hlt
      have hkl : (k : Int) < (cs.length : Int) := by omega
      have hEk := HE.out k hlt
      have hT := HT.out k hlt
      have hLk := HLT.out k
      have hLk1 := HLT.out (k + 1)
      rw [hT, List.length_append] at hLk1
      have hL := HL.out
      unfold putV at hEk
      have HEK := Lib.hid hEk
      have HTK := Lib.hid hT
      have hsz := hbw.size
      have HNUM := Lib.hid (And.intro hLk (And.intro hLk1 hL))
      clear hEk hT hLk hLk1 hL
      go_wp2_with fail
      have hbx := below_boxV x (Obj.cells #[.string cs[k].e.q, .int .u64 cs[k].e.id, .string cs[k].e.p.key, .bool cs[k].e.p.dur, .bool cs[k].e.p.red, .string cs[k].e.p.id, .int .u8 cs[k].x.k, .int .u64 cs[k].x.n, .string cs[k].x.s, .slice cs[k].x.a3 cs[k].x.n3 cs[k].x.c3, .slice cs[k].x.a4 cs[k].x.n4 cs[k].x.c4, .string cs[k].e.body] 67)
      refine (HEK.out _ (hbw.trans (hbx.mono hsz))).mono ?_
      rintro e w4 ⟨v4, rfl, ho4, hb4⟩
      obtain ⟨g4, _, hs4⟩ := ho4.shows
      have hb5 := (hbw.trans (hbx.mono hsz)).trans (hb4.mono (hbw.trans (hbx.mono hsz)).size)
      have ho' := ho.keep (w' := w4) (fun g hg => (hb4.block g (by have := (ho.block g hg).2; simp; omega)).trans (hbx.block g (ho.block g hg).2))
      have hx4 := hb5.size
      have HX := Lib.hid (And.intro ho' (And.intro hb5 hs4))
      clear ho ho4 hb4 hbx hb5 hs4 ho'
      go_wp2_with (at_builtin
                   refine wpList_append8 _ rfl (.tmp 18) (.tmp 21) 50 rfl w.heap.size 5 Tryz.underlying50 info8 _ _ rfl HX.out.1 g4 _ _ rfl HX.out.2.2 (by have := HNUM.out; simp only [List.length_append, be_length]; omega) hx4 ?_
                   intro v6 w6 ho6 hg6)
      go_roundw
      case rel => exact ⟨k + 1, by omega, by go_num, by rw [HTK.out, ← List.append_assoc]; exact ho6, HX.out.2.1.grown hg6 hx4 (fun q hq => (HX.out.1.block q hq).1)⟩
      case measure => simp [intOf]; omega
    · have hkn : k = cs.length := by omega
      have hkl : ¬ (k : Int) < (cs.length : Int) := by omega
      have HO := Lib.hid ho
      have HKN := Lib.hid hkn
      clear ho hkn
      go_wp2_with fail
      go_ret
      exact ⟨_, rfl, by have h9 := HO.out; rw [HKN.out, List.take_of_length_le (by simp [esOf_len])] at h9; exact h9, hbw⟩
set_option maxHeartbeats 4000000 in
theorem encListRef_any (A : Option Addr) (c : Nat) (cs : List RefE) (w : World) (hr : RowR w A c cs) (hm : ∀ j (h : j < cs.length), cs[j].q.size ≤ 255) (hl : cs.length ≤ 100) :
    Calls Tryz.prog 56 #[.slice A cs.length c, .func (.func 57) #[] #[]] w fun e w' => ∃ v, e = .returned v ∧ Own 5 w' w.heap.size v (rowB refB cs) ∧ Below w.heap.size w w' := by
  have hz : cs.length < 256 := by omega
  have HP := Lib.hid (fun w' => put_any2 (.slice none 0 0) [] 0 cs.length 1 w' (Shows.nil_ _ _) (by simp) (by omega))
  have HE := Lib.hid (fun j (hj : j < cs.length) w' (hb : Below w.heap.size w w') => enc2_any cs[j] w' (hm j hj))
  have HT := Lib.hid (fun k (hk : k < cs.length) => show (cs.take (k + 1)).flatMap refB = (cs.take k).flatMap refB ++ refB cs[k] from flat_snoc refB cs k hk)
  have HL := Lib.hid (flat_le refB 20000 cs (by
    intro p hp
    obtain ⟨j, hj, rfl⟩ := List.getElem_of_mem hp
    have h1 := hm j hj
    unfold refB
    rw [placeB_len]; omega))
  have HLT := Lib.hid (fun k => flat_take_le refB cs k)
  have hel : cs.length = cs.length := rfl
  have hcu : IntKind.u64.wrap (cs.length : Int) = (cs.length : Int) := by rw [IntKind.wrap_u64]; omega
  rw [List.nil_append] at HP
  unfold rowB
  rw [hel] at HL ⊢
  clear hel
  go_enter Tryz.func56, Tryz.ntmps56
  go_wp2_with fail
  refine (HP.out _).mono ?_
  rintro e w1 ⟨v1, rfl, ho1, hb1⟩
  go_wp2_with fail
  go_loopw [5, 14] (fun s i wr => ∃ k : Nat, k ≤ cs.length ∧ i = .int .i64 k ∧ Own 5 wr w.heap.size s (be 1 cs.length ++ (cs.take k).flatMap refB) ∧ Below w.heap.size w wr) (fun _ i _ => cs.length - (intOf i).toNat)
  case atStart => exact ⟨0, Nat.zero_le _, rfl, by simpa using ho1, hb1⟩
  case round =>
    rename World => x
    obtain ⟨k, hk, rfl, ho, hbw⟩ := hrel
    by_cases hlt : k < cs.length
    · obtain ⟨d, o, rfl, hd, e0, e1⟩ := (hr.kept hbw (Nat.le_refl _)).at_ k hlt
      have hkl : (k : Int) < (cs.length : Int) := by omega
      have hEk := HE.out k hlt
      have hT := HT.out k hlt
      have hLk := HLT.out k
      have hLk1 := HLT.out (k + 1)
      rw [hT, List.length_append] at hLk1
      have hL := HL.out
      unfold refV at hEk
      have HEK := Lib.hid hEk
      have HTK := Lib.hid hT
      have hsz := hbw.size
      have HNUM := Lib.hid (And.intro hLk (And.intro hLk1 hL))
      clear hEk hT hLk hLk1 hL
      go_wp2_with fail
      have hbx := below_boxV x (Obj.cells #[.string cs[k].q, .int .u64 cs[k].id] 48)
      refine (HEK.out _ (hbw.trans (hbx.mono hsz))).mono ?_
      rintro e w4 ⟨v4, rfl, ho4, hb4⟩
      obtain ⟨g4, _, hs4⟩ := ho4.shows
      have hb5 := (hbw.trans (hbx.mono hsz)).trans (hb4.mono (hbw.trans (hbx.mono hsz)).size)
      have ho' := ho.keep (w' := w4) (fun g hg => (hb4.block g (by have := (ho.block g hg).2; simp; omega)).trans (hbx.block g (ho.block g hg).2))
      have hx4 := hb5.size
      have HX := Lib.hid (And.intro ho' (And.intro hb5 hs4))
      clear ho ho4 hb4 hbx hb5 hs4 ho'
      go_wp2_with (at_builtin
                   refine wpList_append8 _ rfl (.tmp 18) (.tmp 21) 50 rfl w.heap.size 5 Tryz.underlying50 info8 _ _ rfl HX.out.1 g4 _ _ rfl HX.out.2.2 (by have := HNUM.out; simp only [List.length_append, be_length]; omega) hx4 ?_
                   intro v6 w6 ho6 hg6)
      go_roundw
      case rel => exact ⟨k + 1, by omega, by go_num, by rw [HTK.out, ← List.append_assoc]; exact ho6, HX.out.2.1.grown hg6 hx4 (fun q hq => (HX.out.1.block q hq).1)⟩
      case measure => simp [intOf]; omega
    · have hkn : k = cs.length := by omega
      have hkl : ¬ (k : Int) < (cs.length : Int) := by omega
      have HO := Lib.hid ho
      have HKN := Lib.hid hkn
      clear ho hkn
      go_wp2_with fail
      go_ret
      exact ⟨_, rfl, by have h9 := HO.out; rw [HKN.out, List.take_of_length_le (by simp [esOf_len])] at h9; exact h9, hbw⟩
end Go.Proofs.YtdklhcmoilcpgaaGreat
namespace Go.Proofs.YtdklhcmoilcpgaaGreat
open Go.RowKit
set_option maxRecDepth 100000
structure OutE (w : World) (x : EntC) (v : Value) (L : List UInt8) (wx : World) : Prop where
  bel : Below w.heap.size w wx
  box : BoxE wx w.heap.size x
  own : Own 5 wx (w.heap.size + 1) v L
section
variable {w wx wy : World} {x : EntC} {v v' : Value} {L m : List UInt8}
theorem OutE.lt (h : OutE w x v L wx) : w.heap.size + 1 ≤ wx.heap.size := h.box.lt
theorem OutE.step (h : OutE w x v L wx) (hb : Below wx.heap.size wx wy) : OutE w x v L wy := ⟨h.bel.trans (hb.mono h.bel.size), h.box.kept hb (Nat.le_refl _), h.own.keep fun g hg => hb.block g (h.own.block g hg).2⟩
theorem OutE.app (h : OutE w x v L wx) (ho : Own 5 wy (w.heap.size + 1) v' (L ++ m)) (hg : wx.grownBy wy v.ownBlock) : OutE w x v' (L ++ m) wy :=
 ⟨h.bel.grown hg h.bel.size (fun k hk => by have := (h.own.block k hk).1; omega), (hg.block _ h.box.lt (fun e => by have := (h.own.block _ e.symm).1; omega)).trans h.box, ho⟩
end
theorem sets_of (k : Nat) (h : kindOK k = true) : (uName k = true ∧ uNum k = true ∧ uX k = false ∧ uWork k = false) ∨ (uName k = true ∧ uNum k = false ∧ uX k = false ∧ uWork k = false) ∨ (uName k = false ∧ uNum k = false ∧ uX k = false ∧ uWork k = true) ∨ (uName k = false ∧ uNum k = false ∧ uX k = true ∧ uWork k = true) ∨
  (uName k = false ∧ uNum k = true ∧ uX k = true ∧ uWork k = false) ∨ (uName k = false ∧ uNum k = false ∧ uX k = true ∧ uWork k = false) := by
 rcases kinds_cases k with rfl | rfl | rfl | rfl | rfl | rfl | rfl | rfl | rfl | hk
 case inr.inr.inr.inr.inr.inr.inr.inr.inr =>
  unfold kindOK at h
  rw [decide_eq_true_eq] at h
  omega
 all_goals decide
set_option maxHeartbeats 8000000 in
theorem encodedE_any (x : EntC) (w : World) (h : ShowsE w x) (hf : Few x.cs) (hv : validE x.e) :
    Calls Tryz.prog 21 #[entV x] w fun e w' => ∃ v, e = .returned v ∧ Own 5 w' w.heap.size v (encE x.e) ∧ Below w.heap.size w w' := by
  obtain ⟨hv0, hv1, hv2, hv3, hv4⟩ := hv
  have HF := Lib.hid (fun w' => fields_any x.k w')
  have HN := Lib.hid (fun w' => has_name x.k w')
  have HU := Lib.hid (fun w' => has_num x.k w')
  have HX := Lib.hid (fun w' => has_x x.k w')
  have HW := Lib.hid (fun w' => has_work x.k w')
  have HP0 := Lib.hid (fun w' => put_any2 (.slice none 0 0) [] 0 x.k 1 w' (Shows.nil_ _ _) (by simp) (by omega))
  have HP8 := Lib.hid (fun w' => put_any2 (.slice none 0 0) [] 0 x.n 8 w' (Shows.nil_ _ _) (by simp) (by omega))
  rw [List.nil_append] at HP0 HP8
  have HT := Lib.hid (fun (hu : uName x.k = true) w' => etext_any x.name 1 w' (by omega) (by
    unfold nameIs at hv1
    have hu' : uName x.e.k = true := hu
    rw [if_pos hu'] at hv1
    have := (qn_size hv1).2
    show x.name.size < 256 ^ 1
    have e : x.e.name = x.name := rfl
    rw [e] at this
    omega))
  have HXP := Lib.hid (fun (hu : uX x.k = true) w' => x_put_ok x.xf x.xg x.xh w' (by
    unfold xidIs at hv3
    have hu' : uX x.e.k = true := hu
    rw [if_pos hu'] at hv3
    exact hv3) h.xf)
  have hwk : uWork x.k = true → workOK x.e := fun hu => by
    unfold workIs at hv4
    have hu' : uWork x.e.k = true := hu
    rw [if_pos hu'] at hv4
    exact hv4
  have HLP := Lib.hid (fun (hu : uWork x.k = true) w' (hb : Below w.heap.size w w') => encListPut_any x.A1 x.c1 x.cs w' (h.puts.kept hb (Nat.le_refl _)) hf (fun j hj => ((hwk hu).2.2.1 _ (List.mem_map.2 ⟨_, List.getElem_mem hj, rfl⟩)).2) (by have := (hwk hu).1; rw [show x.e.puts = esOf x.cs from rfl, esOf_len] at this; exact this))
  have HLR := Lib.hid (fun (hu : uWork x.k = true) w' (hb : Below w.heap.size w w') => encListRef_any x.A2 x.c2 x.rs w' (h.takes.kept hb (Nat.le_refl _)) (fun j hj => by
    have := (hwk hu).2.2.2 _ (List.getElem_mem hj)
    unfold refMay at this
    rw [Bool.and_eq_true] at this
    have := (qn_size this.1).2
    show x.rs[j].q.size ≤ 255
    exact Nat.le_trans this (by decide)) (hwk hu).2.1)
  have hN := nameB_le hv1
  have hM := numB_le x.e
  have hXl := xidB_le hv3
  have hWl : uWork x.k = true → (rowB putB (esOf x.cs)).length ≤ 1240000 ∧ (rowB refB x.rs).length ≤ 5000 := fun hu => by
    rw [rowB_len, rowB_len]
    have h1 := puts_le (hwk hu)
    have h2 := takes_le (hwk hu)
    exact ⟨by show 1 + (x.e.puts.flatMap putB).length ≤ _; omega, by show 1 + (x.e.takes.flatMap refB).length ≤ _; omega⟩
  have hEnc : encE x.e = be 1 x.k ++ nameB x.e ++ numB x.e ++ xidB x.e ++ workB x.e := rfl
  rw [hEnc]
  unfold nameB numB xidB workB at *
  rw [show x.e.k = x.k from rfl, show x.e.name = x.name from rfl, show x.e.n = x.n from rfl, show x.e.xf = x.xf from rfl, show x.e.xg = x.xg from rfl, show x.e.xh = x.xh from rfl, show x.e.puts = esOf x.cs from rfl, show x.e.takes = x.rs from rfl] at *
  clear hEnc hv1 hv2 hv3 hv4 hwk
  obtain hs := sets_of x.k hv0
  clear hv0
  have hB := below_boxV w (Obj.cells #[.int .u8 x.k, .string x.name, .int .u64 x.n, .int .u32 x.xf, .string x.xg, .string x.xh, .slice x.A1 x.cs.length x.c1, .slice x.A2 x.rs.length x.c2] 29)
  have hBX := BoxE.new (x := x) w
  have HB := Lib.hid hB
  have HBX := Lib.hid hBX
  obtain ⟨k, name, n, xf, xg, xh, A1, c1, cs, A2, c2, rs⟩ := x
  unfold entV
  simp only [] at *
  obtain ⟨⟨e0, e1, e2⟩, ⟨e3, e4, e5⟩, e6, e7⟩ := hBX.cells
  simp only [] at e0 e1 e2 e3 e4 e5 e6 e7
  have hkw : IntKind.u64.wrap (k : Int) = (k : Int) := by rw [IntKind.wrap_u64]; have := h.k; simp only [] at this; omega
  generalize be 1 name.size ++ sb name = N at *
  generalize be 8 n = M at *
  generalize encX xf xg xh = X at *
  generalize rowB putB (esOf cs) = P at *
  generalize rowB refB rs = T at *
  clear hB hBX h hf
  rcases hs with hs | hs | hs | hs | hs | hs
  · obtain ⟨hu1, hu2, hu3, hu4⟩ := hs
    rw [hu1] at HN
    rw [hu2] at HU
    rw [hu3] at HX
    rw [hu4] at HW
    have HT := Lib.hid (HT.out hu1)
    clear hWl HLP HLR
    rw [if_pos hu1] at hN ⊢
    rw [if_pos hu2] at hM ⊢
    rw [if_neg (by rw [hu3]; decide)] at hXl ⊢
    rw [if_neg (by rw [hu4]; decide)]
    have HNUM := Lib.hid (And.intro hN (And.intro hM hXl))
    clear hu1 hu2 hu3 hu4 hN hM hXl
    go_enter Tryz.func21, Tryz.ntmps21
    go_wp2_with fail
    refine (HF.out _).mono ?_
    rintro e w1 ⟨rfl, rfl⟩
    go_wp2_with fail
    refine (HP0.out _).mono ?_
    rintro e w2 ⟨v2, rfl, ho2, hb2⟩
    have hG := OutE.mk (HB.out.trans (hb2.mono HB.out.size)) (HBX.out.kept hb2 (Nat.le_refl _)) (ho2.mono (by simp))
    clear e0 e1 e2 e3 e4 e5 e6 e7 ho2 hb2
    go_wp2_with fail
    refine (HN.out _).mono ?_
    rintro e w1 ⟨rfl, rfl⟩
    obtain ⟨⟨e0, e1, e2⟩, ⟨e3, e4, e5⟩, e6, e7⟩ := hG.box.cells
    simp only [] at e0 e1 e2 e3 e4 e5 e6 e7
    go_wp2_with fail
    refine (HT.out _).mono ?_
    rintro e w4 ⟨v4, rfl, ho4, hb4⟩
    obtain ⟨g4, _, hs4⟩ := ho4.shows
    have hG := hG.step hb4
    clear e0 e1 e2 e3 e4 e5 e6 e7
    clear ho4 hb4
    have hsz := hG.lt
    go_wp2_with (at_builtin
                 refine wpList_append8 _ rfl (.tmp 16) (.tmp 19) 50 rfl (w.heap.size + 1) 5 Tryz.underlying50 info8 _ _ rfl hG.own _ _ _ rfl hs4 (by have := HNUM.out; simp only [List.length_append, be_length, List.length_nil] at this ⊢; omega) hsz ?_
                 intro v9 w9 ho9 hg9
                 have hG := hG.app ho9 hg9)
    clear ho9 hg9 hsz
    clear hs4
    refine (HU.out _).mono ?_
    rintro e w1 ⟨rfl, rfl⟩
    obtain ⟨⟨e0, e1, e2⟩, ⟨e3, e4, e5⟩, e6, e7⟩ := hG.box.cells
    simp only [] at e0 e1 e2 e3 e4 e5 e6 e7
    go_wp2_with fail
    refine (HP8.out _).mono ?_
    rintro e w4 ⟨v4, rfl, ho4, hb4⟩
    obtain ⟨g4, _, hs4⟩ := ho4.shows
    have hG := hG.step hb4
    clear e0 e1 e2 e3 e4 e5 e6 e7
    clear ho4 hb4
    have hsz := hG.lt
    go_wp2_with (at_builtin
                 refine wpList_append8 _ rfl (.tmp 23) (.tmp 26) 50 rfl (w.heap.size + 1) 5 Tryz.underlying50 info8 _ _ rfl hG.own _ _ _ rfl hs4 (by have := HNUM.out; simp only [List.length_append, be_length, List.length_nil] at this ⊢; omega) hsz ?_
                 intro v9 w9 ho9 hg9
                 have hG := hG.app ho9 hg9)
    clear ho9 hg9 hsz
    clear hs4
    refine (HX.out _).mono ?_
    rintro e w1 ⟨rfl, rfl⟩
    go_wp2_with fail
    refine (HW.out _).mono ?_
    rintro e w1 ⟨rfl, rfl⟩
    go_wp2_with fail
    go_ret
    have h9 := hG.own.mono (Nat.le_succ w.heap.size)
    simp only [List.append_assoc, List.append_nil, List.nil_append] at h9 ⊢
    exact ⟨_, rfl, h9, hG.bel⟩
  · obtain ⟨hu1, hu2, hu3, hu4⟩ := hs
    rw [hu1] at HN
    rw [hu2] at HU
    rw [hu3] at HX
    rw [hu4] at HW
    have HT := Lib.hid (HT.out hu1)
    clear hWl HLP HLR
    rw [if_pos hu1] at hN ⊢
    rw [if_neg (by rw [hu2]; decide)] at hM ⊢
    rw [if_neg (by rw [hu3]; decide)] at hXl ⊢
    rw [if_neg (by rw [hu4]; decide)]
    have HNUM := Lib.hid (And.intro hN (And.intro hM hXl))
    clear hu1 hu2 hu3 hu4 hN hM hXl
    go_enter Tryz.func21, Tryz.ntmps21
    go_wp2_with fail
    refine (HF.out _).mono ?_
    rintro e w1 ⟨rfl, rfl⟩
    go_wp2_with fail
    refine (HP0.out _).mono ?_
    rintro e w2 ⟨v2, rfl, ho2, hb2⟩
    have hG := OutE.mk (HB.out.trans (hb2.mono HB.out.size)) (HBX.out.kept hb2 (Nat.le_refl _)) (ho2.mono (by simp))
    clear e0 e1 e2 e3 e4 e5 e6 e7 ho2 hb2
    go_wp2_with fail
    refine (HN.out _).mono ?_
    rintro e w1 ⟨rfl, rfl⟩
    obtain ⟨⟨e0, e1, e2⟩, ⟨e3, e4, e5⟩, e6, e7⟩ := hG.box.cells
    simp only [] at e0 e1 e2 e3 e4 e5 e6 e7
    go_wp2_with fail
    refine (HT.out _).mono ?_
    rintro e w4 ⟨v4, rfl, ho4, hb4⟩
    obtain ⟨g4, _, hs4⟩ := ho4.shows
    have hG := hG.step hb4
    clear e0 e1 e2 e3 e4 e5 e6 e7
    clear ho4 hb4
    have hsz := hG.lt
    go_wp2_with (at_builtin
                 refine wpList_append8 _ rfl (.tmp 16) (.tmp 19) 50 rfl (w.heap.size + 1) 5 Tryz.underlying50 info8 _ _ rfl hG.own _ _ _ rfl hs4 (by have := HNUM.out; simp only [List.length_append, be_length, List.length_nil] at this ⊢; omega) hsz ?_
                 intro v9 w9 ho9 hg9
                 have hG := hG.app ho9 hg9)
    clear ho9 hg9 hsz
    clear hs4
    refine (HU.out _).mono ?_
    rintro e w1 ⟨rfl, rfl⟩
    go_wp2_with fail
    refine (HX.out _).mono ?_
    rintro e w1 ⟨rfl, rfl⟩
    go_wp2_with fail
    refine (HW.out _).mono ?_
    rintro e w1 ⟨rfl, rfl⟩
    go_wp2_with fail
    go_ret
    have h9 := hG.own.mono (Nat.le_succ w.heap.size)
    simp only [List.append_assoc, List.append_nil, List.nil_append] at h9 ⊢
    exact ⟨_, rfl, h9, hG.bel⟩
  · obtain ⟨hu1, hu2, hu3, hu4⟩ := hs
    rw [hu1] at HN
    rw [hu2] at HU
    rw [hu3] at HX
    rw [hu4] at HW
    have HLP := Lib.hid (HLP.out hu4)
    have HLR := Lib.hid (HLR.out hu4)
    have hWl := hWl hu4
    rw [if_neg (by rw [hu1]; decide)] at hN ⊢
    rw [if_neg (by rw [hu2]; decide)] at hM ⊢
    rw [if_neg (by rw [hu3]; decide)] at hXl ⊢
    rw [if_pos hu4]
    have HNUM := Lib.hid (And.intro hN (And.intro hM (And.intro hXl hWl)))
    clear hu1 hu2 hu3 hu4 hN hM hXl hWl
    go_enter Tryz.func21, Tryz.ntmps21
    go_wp2_with fail
    refine (HF.out _).mono ?_
    rintro e w1 ⟨rfl, rfl⟩
    go_wp2_with fail
    refine (HP0.out _).mono ?_
    rintro e w2 ⟨v2, rfl, ho2, hb2⟩
    have hG := OutE.mk (HB.out.trans (hb2.mono HB.out.size)) (HBX.out.kept hb2 (Nat.le_refl _)) (ho2.mono (by simp))
    clear e0 e1 e2 e3 e4 e5 e6 e7 ho2 hb2
    go_wp2_with fail
    refine (HN.out _).mono ?_
    rintro e w1 ⟨rfl, rfl⟩
    go_wp2_with fail
    refine (HU.out _).mono ?_
    rintro e w1 ⟨rfl, rfl⟩
    go_wp2_with fail
    refine (HX.out _).mono ?_
    rintro e w1 ⟨rfl, rfl⟩
    go_wp2_with fail
    refine (HW.out _).mono ?_
    rintro e w1 ⟨rfl, rfl⟩
    obtain ⟨⟨e0, e1, e2⟩, ⟨e3, e4, e5⟩, e6, e7⟩ := hG.box.cells
    simp only [] at e0 e1 e2 e3 e4 e5 e6 e7
    go_wp2_with fail
    refine (HLP.out _ hG.bel).mono ?_
    rintro e w4 ⟨v4, rfl, ho4, hb4⟩
    obtain ⟨g4, _, hs4⟩ := ho4.shows
    have hG := hG.step hb4
    clear e0 e1 e2 e3 e4 e5 e6 e7
    clear ho4 hb4
    obtain ⟨⟨e0, e1, e2⟩, ⟨e3, e4, e5⟩, e6, e7⟩ := hG.box.cells
    simp only [] at e0 e1 e2 e3 e4 e5 e6 e7
    have hsz := hG.lt
    go_wp2_with (at_builtin
                 refine wpList_append8 _ rfl (.tmp 41) (.tmp 44) 50 rfl (w.heap.size + 1) 5 Tryz.underlying50 info8 _ _ rfl hG.own _ _ _ rfl hs4 (by have := HNUM.out; simp only [List.length_append, be_length, List.length_nil] at this ⊢; omega) hsz ?_
                 intro v9 w9 ho9 hg9
                 have hG := hG.app ho9 hg9
                 clear e0 e1 e2 e3 e4 e5 e6 e7 hs4 hsz ho9 hg9
                 obtain ⟨⟨e0, e1, e2⟩, ⟨e3, e4, e5⟩, e6, e7⟩ := hG.box.cells
                 simp only [] at e0 e1 e2 e3 e4 e5 e6 e7)
    refine (HLR.out _ hG.bel).mono ?_
    rintro e w4 ⟨v4, rfl, ho4, hb4⟩
    obtain ⟨g4, _, hs4⟩ := ho4.shows
    have hG := hG.step hb4
    clear e0 e1 e2 e3 e4 e5 e6 e7
    clear ho4 hb4
    have hsz := hG.lt
    go_wp2_with (at_builtin
                 refine wpList_append8 _ rfl (.tmp 46) (.tmp 49) 50 rfl (w.heap.size + 1) 5 Tryz.underlying50 info8 _ _ rfl hG.own _ _ _ rfl hs4 (by have := HNUM.out; simp only [List.length_append, be_length, List.length_nil] at this ⊢; omega) hsz ?_
                 intro v9 w9 ho9 hg9
                 have hG := hG.app ho9 hg9)
    clear ho9 hg9 hsz
    go_ret
    have h9 := hG.own.mono (Nat.le_succ w.heap.size)
    simp only [List.append_assoc, List.append_nil, List.nil_append] at h9 ⊢
    exact ⟨_, rfl, h9, hG.bel⟩
  · obtain ⟨hu1, hu2, hu3, hu4⟩ := hs
    rw [hu1] at HN
    rw [hu2] at HU
    rw [hu3] at HX
    rw [hu4] at HW
    have HXP := Lib.hid (HXP.out hu3)
    have HLP := Lib.hid (HLP.out hu4)
    have HLR := Lib.hid (HLR.out hu4)
    have hWl := hWl hu4
    rw [if_neg (by rw [hu1]; decide)] at hN ⊢
    rw [if_neg (by rw [hu2]; decide)] at hM ⊢
    rw [if_pos hu3] at hXl ⊢
    rw [if_pos hu4]
    have HNUM := Lib.hid (And.intro hN (And.intro hM (And.intro hXl hWl)))
    clear hu1 hu2 hu3 hu4 hN hM hXl hWl
    go_enter Tryz.func21, Tryz.ntmps21
    go_wp2_with fail
    refine (HF.out _).mono ?_
    rintro e w1 ⟨rfl, rfl⟩
    go_wp2_with fail
    refine (HP0.out _).mono ?_
    rintro e w2 ⟨v2, rfl, ho2, hb2⟩
    have hG := OutE.mk (HB.out.trans (hb2.mono HB.out.size)) (HBX.out.kept hb2 (Nat.le_refl _)) (ho2.mono (by simp))
    clear e0 e1 e2 e3 e4 e5 e6 e7 ho2 hb2
    go_wp2_with fail
    refine (HN.out _).mono ?_
    rintro e w1 ⟨rfl, rfl⟩
    go_wp2_with fail
    refine (HU.out _).mono ?_
    rintro e w1 ⟨rfl, rfl⟩
    go_wp2_with fail
    refine (HX.out _).mono ?_
    rintro e w1 ⟨rfl, rfl⟩
    obtain ⟨⟨e0, e1, e2⟩, ⟨e3, e4, e5⟩, e6, e7⟩ := hG.box.cells
    simp only [] at e0 e1 e2 e3 e4 e5 e6 e7
    go_wp2_with fail
    refine (HXP.out _).mono ?_
    rintro e w4 ⟨v4, rfl, ho4, hb4⟩
    obtain ⟨g4, _, hs4⟩ := ho4.shows
    have hG := hG.step hb4
    clear e0 e1 e2 e3 e4 e5 e6 e7
    clear ho4 hb4
    have hsz := hG.lt
    go_wp2_with (at_builtin
                 refine wpList_append8 _ rfl (.tmp 36) (.tmp 37) 50 rfl (w.heap.size + 1) 5 Tryz.underlying50 info8 _ _ rfl hG.own _ _ _ rfl hs4 (by have := HNUM.out; simp only [List.length_append, be_length, List.length_nil] at this ⊢; omega) hsz ?_
                 intro v9 w9 ho9 hg9
                 have hG := hG.app ho9 hg9)
    clear ho9 hg9 hsz
    clear hs4
    refine (HW.out _).mono ?_
    rintro e w1 ⟨rfl, rfl⟩
    obtain ⟨⟨e0, e1, e2⟩, ⟨e3, e4, e5⟩, e6, e7⟩ := hG.box.cells
    simp only [] at e0 e1 e2 e3 e4 e5 e6 e7
    go_wp2_with fail
    refine (HLP.out _ hG.bel).mono ?_
    rintro e w4 ⟨v4, rfl, ho4, hb4⟩
    obtain ⟨g4, _, hs4⟩ := ho4.shows
    have hG := hG.step hb4
    clear e0 e1 e2 e3 e4 e5 e6 e7
    clear ho4 hb4
    obtain ⟨⟨e0, e1, e2⟩, ⟨e3, e4, e5⟩, e6, e7⟩ := hG.box.cells
    simp only [] at e0 e1 e2 e3 e4 e5 e6 e7
    have hsz := hG.lt
    go_wp2_with (at_builtin
                 refine wpList_append8 _ rfl (.tmp 41) (.tmp 44) 50 rfl (w.heap.size + 1) 5 Tryz.underlying50 info8 _ _ rfl hG.own _ _ _ rfl hs4 (by have := HNUM.out; simp only [List.length_append, be_length, List.length_nil] at this ⊢; omega) hsz ?_
                 intro v9 w9 ho9 hg9
                 have hG := hG.app ho9 hg9
                 clear e0 e1 e2 e3 e4 e5 e6 e7 hs4 hsz ho9 hg9
                 obtain ⟨⟨e0, e1, e2⟩, ⟨e3, e4, e5⟩, e6, e7⟩ := hG.box.cells
                 simp only [] at e0 e1 e2 e3 e4 e5 e6 e7)
    refine (HLR.out _ hG.bel).mono ?_
    rintro e w4 ⟨v4, rfl, ho4, hb4⟩
    obtain ⟨g4, _, hs4⟩ := ho4.shows
    have hG := hG.step hb4
    clear e0 e1 e2 e3 e4 e5 e6 e7
    clear ho4 hb4
    have hsz := hG.lt
    go_wp2_with (at_builtin
                 refine wpList_append8 _ rfl (.tmp 46) (.tmp 49) 50 rfl (w.heap.size + 1) 5 Tryz.underlying50 info8 _ _ rfl hG.own _ _ _ rfl hs4 (by have := HNUM.out; simp only [List.length_append, be_length, List.length_nil] at this ⊢; omega) hsz ?_
                 intro v9 w9 ho9 hg9
                 have hG := hG.app ho9 hg9)
    clear ho9 hg9 hsz
    go_ret
    have h9 := hG.own.mono (Nat.le_succ w.heap.size)
    simp only [List.append_assoc, List.append_nil, List.nil_append] at h9 ⊢
    exact ⟨_, rfl, h9, hG.bel⟩
  · obtain ⟨hu1, hu2, hu3, hu4⟩ := hs
    rw [hu1] at HN
    rw [hu2] at HU
    rw [hu3] at HX
    rw [hu4] at HW
    have HXP := Lib.hid (HXP.out hu3)
    clear hWl HLP HLR
    rw [if_neg (by rw [hu1]; decide)] at hN ⊢
    rw [if_pos hu2] at hM ⊢
    rw [if_pos hu3] at hXl ⊢
    rw [if_neg (by rw [hu4]; decide)]
    have HNUM := Lib.hid (And.intro hN (And.intro hM hXl))
    clear hu1 hu2 hu3 hu4 hN hM hXl
    go_enter Tryz.func21, Tryz.ntmps21
    go_wp2_with fail
    refine (HF.out _).mono ?_
    rintro e w1 ⟨rfl, rfl⟩
    go_wp2_with fail
    refine (HP0.out _).mono ?_
    rintro e w2 ⟨v2, rfl, ho2, hb2⟩
    have hG := OutE.mk (HB.out.trans (hb2.mono HB.out.size)) (HBX.out.kept hb2 (Nat.le_refl _)) (ho2.mono (by simp))
    clear e0 e1 e2 e3 e4 e5 e6 e7 ho2 hb2
    go_wp2_with fail
    refine (HN.out _).mono ?_
    rintro e w1 ⟨rfl, rfl⟩
    go_wp2_with fail
    refine (HU.out _).mono ?_
    rintro e w1 ⟨rfl, rfl⟩
    obtain ⟨⟨e0, e1, e2⟩, ⟨e3, e4, e5⟩, e6, e7⟩ := hG.box.cells
    simp only [] at e0 e1 e2 e3 e4 e5 e6 e7
    go_wp2_with fail
    refine (HP8.out _).mono ?_
    rintro e w4 ⟨v4, rfl, ho4, hb4⟩
    obtain ⟨g4, _, hs4⟩ := ho4.shows
    have hG := hG.step hb4
    clear e0 e1 e2 e3 e4 e5 e6 e7
    clear ho4 hb4
    have hsz := hG.lt
    go_wp2_with (at_builtin
                 refine wpList_append8 _ rfl (.tmp 23) (.tmp 26) 50 rfl (w.heap.size + 1) 5 Tryz.underlying50 info8 _ _ rfl hG.own _ _ _ rfl hs4 (by have := HNUM.out; simp only [List.length_append, be_length, List.length_nil] at this ⊢; omega) hsz ?_
                 intro v9 w9 ho9 hg9
                 have hG := hG.app ho9 hg9)
    clear ho9 hg9 hsz
    clear hs4
    refine (HX.out _).mono ?_
    rintro e w1 ⟨rfl, rfl⟩
    obtain ⟨⟨e0, e1, e2⟩, ⟨e3, e4, e5⟩, e6, e7⟩ := hG.box.cells
    simp only [] at e0 e1 e2 e3 e4 e5 e6 e7
    go_wp2_with fail
    refine (HXP.out _).mono ?_
    rintro e w4 ⟨v4, rfl, ho4, hb4⟩
    obtain ⟨g4, _, hs4⟩ := ho4.shows
    have hG := hG.step hb4
    clear e0 e1 e2 e3 e4 e5 e6 e7
    clear ho4 hb4
    have hsz := hG.lt
    go_wp2_with (at_builtin
                 refine wpList_append8 _ rfl (.tmp 36) (.tmp 37) 50 rfl (w.heap.size + 1) 5 Tryz.underlying50 info8 _ _ rfl hG.own _ _ _ rfl hs4 (by have := HNUM.out; simp only [List.length_append, be_length, List.length_nil] at this ⊢; omega) hsz ?_
                 intro v9 w9 ho9 hg9
                 have hG := hG.app ho9 hg9)
    clear ho9 hg9 hsz
    clear hs4
    refine (HW.out _).mono ?_
    rintro e w1 ⟨rfl, rfl⟩
    go_wp2_with fail
    go_ret
    have h9 := hG.own.mono (Nat.le_succ w.heap.size)
    simp only [List.append_assoc, List.append_nil, List.nil_append] at h9 ⊢
    exact ⟨_, rfl, h9, hG.bel⟩
  · obtain ⟨hu1, hu2, hu3, hu4⟩ := hs
    rw [hu1] at HN
    rw [hu2] at HU
    rw [hu3] at HX
    rw [hu4] at HW
    have HXP := Lib.hid (HXP.out hu3)
    clear hWl HLP HLR
    rw [if_neg (by rw [hu1]; decide)] at hN ⊢
    rw [if_neg (by rw [hu2]; decide)] at hM ⊢
    rw [if_pos hu3] at hXl ⊢
    rw [if_neg (by rw [hu4]; decide)]
    have HNUM := Lib.hid (And.intro hN (And.intro hM hXl))
    clear hu1 hu2 hu3 hu4 hN hM hXl
    go_enter Tryz.func21, Tryz.ntmps21
    go_wp2_with fail
    refine (HF.out _).mono ?_
    rintro e w1 ⟨rfl, rfl⟩
    go_wp2_with fail
    refine (HP0.out _).mono ?_
    rintro e w2 ⟨v2, rfl, ho2, hb2⟩
    have hG := OutE.mk (HB.out.trans (hb2.mono HB.out.size)) (HBX.out.kept hb2 (Nat.le_refl _)) (ho2.mono (by simp))
    clear e0 e1 e2 e3 e4 e5 e6 e7 ho2 hb2
    go_wp2_with fail
    refine (HN.out _).mono ?_
    rintro e w1 ⟨rfl, rfl⟩
    go_wp2_with fail
    refine (HU.out _).mono ?_
    rintro e w1 ⟨rfl, rfl⟩
    go_wp2_with fail
    refine (HX.out _).mono ?_
    rintro e w1 ⟨rfl, rfl⟩
    obtain ⟨⟨e0, e1, e2⟩, ⟨e3, e4, e5⟩, e6, e7⟩ := hG.box.cells
    simp only [] at e0 e1 e2 e3 e4 e5 e6 e7
    go_wp2_with fail
    refine (HXP.out _).mono ?_
    rintro e w4 ⟨v4, rfl, ho4, hb4⟩
    obtain ⟨g4, _, hs4⟩ := ho4.shows
    have hG := hG.step hb4
    clear e0 e1 e2 e3 e4 e5 e6 e7
    clear ho4 hb4
    have hsz := hG.lt
    go_wp2_with (at_builtin
                 refine wpList_append8 _ rfl (.tmp 36) (.tmp 37) 50 rfl (w.heap.size + 1) 5 Tryz.underlying50 info8 _ _ rfl hG.own _ _ _ rfl hs4 (by have := HNUM.out; simp only [List.length_append, be_length, List.length_nil] at this ⊢; omega) hsz ?_
                 intro v9 w9 ho9 hg9
                 have hG := hG.app ho9 hg9)
    clear ho9 hg9 hsz
    clear hs4
    refine (HW.out _).mono ?_
    rintro e w1 ⟨rfl, rfl⟩
    go_wp2_with fail
    go_ret
    have h9 := hG.own.mono (Nat.le_succ w.heap.size)
    simp only [List.append_assoc, List.append_nil, List.nil_append] at h9 ⊢
    exact ⟨_, rfl, h9, hG.bel⟩
end Go.Proofs.YtdklhcmoilcpgaaGreat
namespace Go.Proofs.YtdklhcmoilcpgaaGreat
open Go.RowKit
set_option maxRecDepth 100000
noncomputable def putE (e : EntE) : ByteArray := by classical exact if validE e then str8 (encE e) else ⟨#[]⟩
theorem putE_ok {e : EntE} (h : validE e) : putE e = str8 (encE e) := if_pos h
theorem putE_no {e : EntE} (h : ¬ validE e) : putE e = ⟨#[]⟩ := if_neg h
set_option maxHeartbeats 4000000 in
theorem eput_any (x : EntC) (w : World) (h : ShowsE w x) (hc : Few x.cs) :
  Calls Tryz.prog 11 #[entV x] w fun e w' => e = .returned (.tuple #[.string (putE x.e), .int .i64 (errE x.e)]) ∧ Below w.heap.size w w' := by
 have HC := Lib.hid (fun w' (hb : Below w.heap.size w w') => echeck_any x w' (h.kept hb (Nat.le_refl _)) hc)
 have HE := Lib.hid (fun (hv : validE x.e) w' (hb : Below w.heap.size w w') => encodedE_any x w' (h.kept hb (Nat.le_refl _)) hc hv)
 have hB := below_boxV w (Obj.cells #[.int .u8 x.k, .string x.name, .int .u64 x.n, .int .u32 x.xf, .string x.xg, .string x.xh, .slice x.A1 x.cs.length x.c1, .slice x.A2 x.rs.length x.c2] 29)
 have hBX := BoxE.new (x := x) w
 by_cases hv : validE x.e
 ·rw [errE_ok hv] at HC
  rw [errE_ok hv, putE_ok hv]
  have HE := Lib.hid (HE.out hv)
  generalize encE x.e = L at *
  clear hv
  obtain ⟨k, name, n, xf, xg, xh, A1, c1, cs, A2, c2, rs⟩ := x
  unfold entV at *
  simp only [] at *
  obtain ⟨⟨e0, e1, e2⟩, ⟨e3, e4, e5⟩, e6, e7⟩ := hBX.cells
  simp only [] at e0 e1 e2 e3 e4 e5 e6 e7
  have HB := Lib.hid hB
  have HBX := Lib.hid hBX
  clear hB hBX h hc
  go_enter Tryz.func11, Tryz.ntmps11
  go_wp2_with fail
  refine (HC.out _ HB.out).mono ?_
  rintro e w1 ⟨rfl, hb1⟩
  have hX1 := HBX.out.kept hb1 (Nat.le_refl _)
  have hB1 := HB.out.trans (hb1.mono HB.out.size)
  clear e0 e1 e2 e3 e4 e5 e6 e7
  obtain ⟨⟨e0, e1, e2⟩, ⟨e3, e4, e5⟩, e6, e7⟩ := hX1.cells
  simp only [] at e0 e1 e2 e3 e4 e5 e6 e7
  go_wp2_with fail
  refine (HE.out _ hB1).mono ?_
  rintro e w2 ⟨v, rfl, ho, hb2⟩
  obtain ⟨g, _, hs⟩ := ho.shows
  have hcv := conv_at hs
  have HB2 := Lib.hid (hB1.trans (hb2.mono hB1.size))
  clear hs ho hb2 hB1 hX1 hb1
  go_wp2_with fail
  go_ret2
  exact ⟨rfl, HB2.out⟩
 ·rw [errE_no hv] at HC
  rw [errE_no hv, putE_no hv]
  obtain ⟨k, name, n, xf, xg, xh, A1, c1, cs, A2, c2, rs⟩ := x
  unfold entV at *
  simp only [] at *
  obtain ⟨⟨e0, e1, e2⟩, ⟨e3, e4, e5⟩, e6, e7⟩ := hBX.cells
  simp only [] at e0 e1 e2 e3 e4 e5 e6 e7
  have HB := Lib.hid hB
  clear hB hBX h hc HE hv
  go_enter Tryz.func11, Tryz.ntmps11
  go_wp2_with fail
  refine (HC.out _ HB.out).mono ?_
  rintro e w1 ⟨rfl, hb1⟩
  go_wp2_with fail
  go_ret2
  exact ⟨rfl, HB.out.trans (hb1.mono HB.out.size)⟩
end Go.Proofs.YtdklhcmoilcpgaaGreat
