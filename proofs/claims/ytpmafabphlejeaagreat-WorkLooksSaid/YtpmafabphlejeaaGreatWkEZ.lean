/-
  Texts, together: WkE, WkF, WkG.
  Conditions: none but sizes.
-/
import Derived.Maps.OwnSet
import Derived.Test.YtpmafabphlejeaaGreatWkAZ
import Derived.Test.YtpmafabphlejeaaGreatEnE0Z
/-
  The contracts of the program's set of names, of prepared, of Check.
  Conditions: none but sizes.
-/
namespace Go.Proofs.YtpmafabphlejeaaGreat
open Go.RowKit
set_option linter.unusedVariables false
set_option linter.unusedSimpArgs false
set_option maxRecDepth 100000

theorem rmap2_make (u : World) : (Instr.makeMap 86 none).run Tryz.prog u = .ok (.map (some u.heap.size)) (u.alloc (.map #[] 0)) := by simp [Instr.makeMap, run_underlying Tryz.underlying86, Result.andThen]
theorem setR_step (rs : List RefE) (j : Nat) (h : j < rs.length) : setR [] (rs.take (j + 1)) = if rs[j] ∈ setR [] (rs.take j) then setR [] (rs.take j) else setR [] (rs.take j) ++ [rs[j]] := by
  rw [List.take_succ_eq_append_getElem h, setR_snoc]

set_option maxHeartbeats 1000000 in
theorem setOf_any (A : Option Addr) (c : Nat) (rs : List RefE) (w : World) (h : RowR w A c rs) (hn : rs.length ≤ 1000000) :
    Calls Tryz.prog 45 #[.slice A rs.length c] w fun e w' => ∃ mb L, e = .returned (.map (some mb)) ∧ MapS famRef w' mb L ∧ L.map (·.1) = setR [] rs ∧ Below w.heap.size w w' := by
  have hmk := rmap2_make
  have H0 := Lib.hid (show MapS famRef (w.alloc (.map #[] 0)) w.heap.size [] from MapS.new famRef w)
  have HB0 := Lib.hid (show Below w.heap.size w (w.alloc (.map #[] 0)) from (Below.refl _ _).alloc (Nat.le_refl _) _)
  have HS := Lib.hid h
  clear h
  go_enter Tryz.func45, Tryz.ntmps45
  go_wp2_with fail
  go_loopw [9] (fun i wr => ∃ (j : Nat) (L : List (RefE × Value)), j ≤ rs.length ∧ i = .int .i64 j ∧ Hid (MapS famRef wr w.heap.size L) ∧ Hid (L.map (·.1) = setR [] (rs.take j)) ∧ Hid (Below w.heap.size w wr)) (fun i _ => rs.length - (intOf i).toNat)
  case atStart => exact ⟨0, [], by omega, rfl, H0, Lib.hid rfl, HB0⟩
  case round =>
    rename World => wr
    obtain ⟨j, L, hj, rfl, hset, hk, hb⟩ := hrel
    by_cases hlt : j < rs.length
    · obtain ⟨d, o, rfl, hd, c0, c1⟩ := (HS.out.kept hb.out (Nat.le_refl _)).at_ j hlt
      have b1 : (j : Int) < (rs.length : Int) := by omega
      have b3 : IntKind.i64.wrap ((j : Int) + 1) = (j : Int) + 1 := i64_id _ (by omega) (by omega)
      have hat := HS.out.each j hlt
      have HT := Lib.hid (setR_step rs j hlt)
      generalize rs[j] = r at *
      have hB1 := below_boxV wr (Obj.cells #[.string r.q, .int .u64 r.id] 37)
      have hX1 := BoxR2.new wr r
      have g0 := hX1.c0
      have g1 := hX1.c1
      have hm1 : MapS famRef (wr.alloc (Obj.cells #[.string r.q, .int .u64 r.id] 37)) w.heap.size L := hset.out.keep (hB1.block _ hset.out.lt)
      obtain ⟨w2, hput, hs2, hg2, hz2⟩ := hm1.store (T := 86) Tryz.underlying86 (q := r) hat (.agg #[])
      have hput' : (Instr.mapUpdate 86 (.map (some w.heap.size)) (.agg #[.string r.q, .int .u64 r.id]) (.agg #[])).run Tryz.prog (wr.alloc (Obj.cells #[.string r.q, .int .u64 r.id] 37)) = .ok () w2 := hput
      have hbs := hb.out.size
      have HR : Hid (MapS famRef w2 w.heap.size (putA r (.agg #[]) L)) := Lib.hid hs2
      have HK : Hid ((putA r (.agg #[]) L).map (·.1) = setR [] (rs.take (j + 1))) := Lib.hid (by rw [putA_keys, hk.out]; exact HT.out.symm)
      have HB2 : Hid (Below w.heap.size w w2) := Lib.hid ((hb.out.trans (hB1.mono hbs)).grown hg2 (by simp; omega) (fun k e => by cases e; exact Nat.le_refl _))
      clear hs2 hg2 hput hm1 hB1 hX1 hat hz2 hd
      go_wp2_with fail
      go_roundw
      case rel => exact ⟨j + 1, _, by omega, by go_num, HR, HK, HB2⟩
      case measure => simp [intOf]; omega
    · have b1 : ¬ (j : Int) < (rs.length : Int) := by omega
      have HR : Hid (L.map (·.1) = setR [] rs) := Lib.hid (by have := hk.out; rw [List.take_of_length_le (by omega)] at this; exact this)
      go_wp2_with fail
      go_ret
      first | exact ⟨_, rfl, L, hset.out, HR.out, hb.out⟩ | exact ⟨_, L, rfl, hset.out, HR.out, hb.out⟩

def prepC (f : Nat) (g h : ByteArray) (x : WorkC) : EntC := ⟨4, ⟨#[]⟩, 0, f, g, h, x.A1, x.c1, x.cs, x.A2, x.c2, x.rs⟩
theorem prepC_e (f : Nat) (g h : ByteArray) (x : WorkC) : (prepC f g h x).e = prepE f g h x.ps x.rs := rfl
theorem prepC_shows {w : World} {f : Nat} {g h : ByteArray} {x : WorkC} (hx : ShowsW w x) (hf : f < 4294967296) (hg : g.size ≤ 140737488351232) (hh : h.size ≤ 140737488351232) : ShowsE w (prepC f g h x) :=
  ⟨(show (4 : Nat) < 256 by decide), (show (0 : Nat) ≤ _ by decide), (show (0 : Nat) < _ by decide), hf, hg, hh, hx.puts, hx.takes⟩

set_option maxHeartbeats 1000000 in
theorem prepared_any (f : Nat) (g h : ByteArray) (x : WorkC) (w : World) : Calls Tryz.prog 44 #[workVal x, .agg #[.int .u32 f, .string g, .string h]] w fun e w' => e = .returned (entV (prepC f g h x)) ∧ Below w.heap.size w w' := by
  obtain ⟨A1, c1, cs, A2, c2, rs⟩ := x
  unfold workVal entV prepC
  simp only []
  go_enter Tryz.func44, Tryz.ntmps44
  go_wp2_with fail
  have hB : Below w.heap.size w (((w.alloc (Obj.cells #[.slice A1 cs.length c1, .slice A2 rs.length c2] 25)).alloc (Obj.cells #[.int .u32 f, .string g, .string h] 55)).alloc (Obj.cells #[.int .u8 4, .string ⟨#[]⟩, .int .u64 0, .int .u32 f, .string g, .string h, .slice A1 cs.length c1, .slice A2 rs.length c2] 57)) := ((below_boxV _ _).alloc (by simp) _).alloc (by simp; omega) _
  have hX : (((w.alloc (Obj.cells #[.slice A1 cs.length c1, .slice A2 rs.length c2] 25)).alloc (Obj.cells #[.int .u32 f, .string g, .string h] 55)).alloc (Obj.cells #[.int .u8 4, .string ⟨#[]⟩, .int .u64 0, .int .u32 f, .string g, .string h, .slice A1 cs.length c1, .slice A2 rs.length c2] 57)).heap[w.heap.size + 1 + 1]? = some (.cells #[.int .u8 4, .string ⟨#[]⟩, .int .u64 0, .int .u32 f, .string g, .string h, .slice A1 cs.length c1, .slice A2 rs.length c2] 57 (0, 0)) := by
    have := heap_alloc_new ((w.alloc (Obj.cells #[.slice A1 cs.length c1, .slice A2 rs.length c2] 25)).alloc (Obj.cells #[.int .u32 f, .string g, .string h] 55)) (Obj.cells #[.int .u8 4, .string ⟨#[]⟩, .int .u64 0, .int .u32 f, .string g, .string h, .slice A1 cs.length c1, .slice A2 rs.length c2] 57)
    rw [World.size_alloc, World.size_alloc] at this
    exact this
  exact bodyPost_ret (results_cell_row rfl _ _ (w.heap.size + 1 + 1) 57 _ (0, 0) _ rfl hX Tryz.underlying57 rfl (by kernel_rfl)) rfl ⟨rfl, hB⟩

theorem wB_prep (ps : List PutE) (rs : List RefE) : wB ps rs = true ↔ (errE (prepE 0 ⟨#[97, 110, 121]⟩ ⟨#[]⟩ ps rs) = 0 ∧ (setR [] rs).length = rs.length) := by
  rw [wB_iff, workV_iff, (setR_len rs).2]
  refine and_congr ⟨errE_ok, fun h => ?_⟩ Iff.rfl
  by_cases hv : validE (prepE 0 ⟨#[97, 110, 121]⟩ ⟨#[]⟩ ps rs)
  · exact hv
  · rw [errE_no hv] at h; cases h
theorem errE_cases (e : EntE) : errE e = 0 ∨ errE e = 130 := by
  by_cases h : validE e
  · exact .inl (errE_ok h)
  · exact .inr (errE_no h)
theorem errE_take {ps : List PutE} {rs : List RefE} (h : errE (prepE 0 ⟨#[97, 110, 121]⟩ ⟨#[]⟩ ps rs) = 0) : rs.length ≤ 100 := by
  by_cases hv : validE (prepE 0 ⟨#[97, 110, 121]⟩ ⟨#[]⟩ ps rs)
  · exact ((prepE_valid anyX).1 hv).2.1
  · rw [errE_no hv] at h; cases h

set_option maxHeartbeats 4000000 in
theorem wcheck_any (x : WorkC) (w : World) (h : ShowsW w x) (hf : Few x.cs) : Calls Tryz.prog 16 #[workVal x] w fun e w' => e = .returned (.int .i64 (errW x.ps x.rs)) ∧ Below w.heap.size w w' := by
  have HP := Lib.hid (fun w' => prepared_any 0 ⟨#[97, 110, 121]⟩ ⟨#[]⟩ x w')
  have HE := Lib.hid (fun w' (hb : Below w.heap.size w w') => echeck_any (prepC 0 ⟨#[97, 110, 121]⟩ ⟨#[]⟩ x) w' (prepC_shows (h.kept hb (Nat.le_refl _)) (by decide) (by decide) (by decide)) hf)
  have HQ := Lib.hid (fun hn w' (hb : Below w.heap.size w w') => setOf_any x.A2 x.c2 x.rs w' (h.takes.kept hb (Nat.le_refl _)) hn)
  obtain ⟨R, hR⟩ : ∃ R, R = errW x.ps x.rs := ⟨_, rfl⟩
  rw [← hR]
  have HR := Lib.hid hR
  have HW := Lib.hid (wB_prep x.ps x.rs)
  have HTK := Lib.hid (fun hh => errE_take (ps := x.ps) (rs := x.rs) hh)
  have HCS := Lib.hid (errE_cases (prepE 0 ⟨#[97, 110, 121]⟩ ⟨#[]⟩ x.ps x.rs))
  simp only [prepC_e] at HE
  obtain ⟨E1, hE1⟩ : ∃ E1, E1 = errE (prepE 0 ⟨#[97, 110, 121]⟩ ⟨#[]⟩ x.ps x.rs) := ⟨_, rfl⟩
  rw [← hE1] at HE HW HTK HCS
  clear hE1 hR h hf
  obtain ⟨A1, c1, cs, A2, c2, rs⟩ := x
  unfold workVal prepC entV at *
  simp only [WorkC.ps] at *
  have hB0 := below_boxV w (Obj.cells #[.slice A1 cs.length c1, .slice A2 rs.length c2] 25)
  have hX0 := BoxK.new w (.slice A1 cs.length c1) (.slice A2 rs.length c2)
  have k0 := hX0.c0
  have k1 := hX0.c1
  have H0 := Lib.hid (And.intro hB0 hX0)
  clear hB0 hX0
  go_enter Tryz.func16, Tryz.ntmps16
  go_wp2_with fail
  refine (HP.out _).mono ?_
  rintro e w1 ⟨rfl, hb1⟩
  obtain ⟨hB0, hX0⟩ := H0.out
  have hb01 := hB0.trans (hb1.mono hB0.size)
  have hX1 := hX0.kept hb1 (Nat.le_refl _)
  obtain ⟨W2, hW2⟩ : ∃ W2, W2 = w1.alloc (Obj.cells #[.int .u8 4, .string ⟨#[]⟩, .int .u64 0, .int .u32 0, .string ⟨#[97, 110, 121]⟩, .string ⟨#[]⟩, .slice A1 cs.length c1, .slice A2 rs.length c2] 57) := ⟨_, rfl⟩
  have hB2 : Below w1.heap.size w1 W2.drew := by rw [hW2]; exact below_drew1 (below_boxV w1 _)
  have hE2 : BoxE W2.drew w1.heap.size ⟨4, ⟨#[]⟩, 0, 0, ⟨#[97, 110, 121]⟩, ⟨#[]⟩, A1, c1, cs, A2, c2, rs⟩ := by rw [hW2]; exact BoxE.new (x := ⟨4, ⟨#[]⟩, 0, 0, ⟨#[97, 110, 121]⟩, ⟨#[]⟩, A1, c1, cs, A2, c2, rs⟩) w1
  have hX2 := hX1.kept hB2 (Nat.le_refl _)
  have hb2 := hb01.trans (hB2.mono hb01.size)
  have HEC := Lib.hid (show Calls Tryz.prog 31 #[.agg #[.int .u8 4, .string ⟨#[]⟩, .int .u64 0, .int .u32 0, .string ⟨#[97, 110, 121]⟩, .string ⟨#[]⟩, .slice A1 cs.length c1, .slice A2 rs.length c2]] W2.drew _ from HE.out _ hb2)
  have HX2 := Lib.hid hX2
  have HKEEP := Lib.hid (show ∀ w', Below W2.drew.heap.size W2.drew w' → (w'.cell? ⟨w1.heap.size, 0, none⟩ = some (.int .u8 4) ∧ w'.cell? ⟨w1.heap.size, 1, none⟩ = some (.string ⟨#[]⟩) ∧ w'.cell? ⟨w1.heap.size, 2, none⟩ = some (.int .u64 0) ∧ w'.cell? ⟨w1.heap.size, 3, none⟩ = some (.int .u32 0)) ∧ (w'.cell? ⟨w1.heap.size, 4, none⟩ = some (.string ⟨#[97, 110, 121]⟩) ∧ w'.cell? ⟨w1.heap.size, 5, none⟩ = some (.string ⟨#[]⟩) ∧ w'.cell? ⟨w1.heap.size, 6, none⟩ = some (.slice A1 cs.length c1) ∧ w'.cell? ⟨w1.heap.size, 7, none⟩ = some (.slice A2 rs.length c2)) ∧ w'.cell? ⟨w.heap.size, 1, none⟩ = some (.slice A2 rs.length c2) from fun w' hb' => by
    obtain ⟨⟨t0, t1, t2⟩, ⟨t3, t4, t5⟩, t6, t7⟩ := (hE2.kept hb' (Nat.le_refl _)).cells
    exact ⟨⟨t0, t1, t2, t3⟩, ⟨t4, t5, t6, t7⟩, (hX2.kept hb' (Nat.le_refl _)).c1⟩)
  have HB2 := Lib.hid hb2
  have HW2 := Lib.hid hW2.symm
  clear hB0 hX0 hb01 hX1 hE2 hX2 hb1 k0 k1 hB2 hb2 hW2
  rcases HCS.out with h0 | h0
  case inr =>
    have hR : R = 130 := by
      rw [HR.out]
      exact errW_no (by
        cases e : wB (esOf cs) rs with
        | false => rfl
        | true => have := (HW.out.1 e).1; rw [h0] at this; cases this)
    subst h0
    subst hR
    go_upto_region 2 with fail
    rw [HW2.out]
    refine wp_region_held_drew (S := fun w' => (w'.cell? ⟨w1.heap.size, 0, none⟩ = some (.int .u8 4) ∧ w'.cell? ⟨w1.heap.size, 1, none⟩ = some (.string ⟨#[]⟩) ∧ w'.cell? ⟨w1.heap.size, 2, none⟩ = some (.int .u64 0) ∧ w'.cell? ⟨w1.heap.size, 3, none⟩ = some (.int .u32 0)) ∧ (w'.cell? ⟨w1.heap.size, 4, none⟩ = some (.string ⟨#[97, 110, 121]⟩) ∧ w'.cell? ⟨w1.heap.size, 5, none⟩ = some (.string ⟨#[]⟩) ∧ w'.cell? ⟨w1.heap.size, 6, none⟩ = some (.slice A1 cs.length c1) ∧ w'.cell? ⟨w1.heap.size, 7, none⟩ = some (.slice A2 rs.length c2)) ∧ w'.cell? ⟨w.heap.size, 1, none⟩ = some (.slice A2 rs.length c2)) (by kernel_rfl) (HKEEP.out _ (Below.refl _ _)) (fun hHeld => ?_)
    refine wpAnyH_take (i := 0) (oi := { dst := some 7, op := Op.load 57 (Operand.tmp 3), type := 57, pos := "work.go:17", after := #[], guard := none }) (v := ?_) rfl (by kernel_rfl) (by kernel_rfl) (by kernel_rfl) (fun _ _ _ h => h) (Or.inl ⟨by rfl, ?_⟩) (by assumption) ?_
    rotate_left
    · intro w9 hSw
      obtain ⟨⟨g0, g1, g2, g3⟩, ⟨g4, g5, g6, g7⟩, k1⟩ := hSw
      go_simp
      try with_reducible rfl
    try simp only [Act.put, List.setIfInBounds_toArray, List.set_cons_zero, List.set_cons_succ]
    refine wpAnyH_ready (rs := [1]) (by kernel_rfl) (by simp) ?_
    refine AllReadyH.cons (o := { dst := some 8, op := Op.call { callee := Callee.value (Operand.func 31), args := #[Operand.tmp 7], argTypes := #[57] }, type := 42, pos := "work.go:17", after := #[{ on := 0, ground := Ground.data }], guard := none }) rfl (fun K hK => ?_) AllReadyH.nil
    go_simp
    refine HEC.out.mono ?_
    rintro e w3 ⟨rfl, hb3⟩
    have hS3 := HKEEP.out _ hb3
    have HB3 := Lib.hid (HB2.out.trans (hb3.mono HB2.out.size))
    refine hK.out _ _ hS3 (fun _ => ?_)
    clear hK K
    try simp only [Act.put, List.setIfInBounds_toArray, List.set_cons_zero, List.set_cons_succ]
    refine wpAnyH_take (i := 2) (oi := { dst := some 9, op := Op.binOp BinOp.neq 42 (Operand.tmp 8) (Operand.const (Value.int IntKind.i64 0)) 42, type := 4, pos := "work.go:17", after := #[{ on := 1, ground := Ground.data }], guard := none }) (v := ?_) rfl (by kernel_rfl) (by kernel_rfl) (by kernel_rfl) (fun _ _ _ h => h) (Or.inl ⟨by rfl, ?_⟩) (by assumption) ?_
    rotate_left
    · intro w9 hSw
      obtain ⟨⟨g0, g1, g2, g3⟩, ⟨g4, g5, g6, g7⟩, k1⟩ := hSw
      go_simp
      try with_reducible rfl
    try simp only [Act.put, List.setIfInBounds_toArray, List.set_cons_zero, List.set_cons_succ]
    refine wpAnyH_take (i := 3) (oi := { dst := some 10, op := Op.move (Operand.tmp 9), type := 4, pos := "work.go:17", after := #[{ on := 2, ground := Ground.data }, { on := 1, ground := Ground.chain }], guard := none }) (v := ?_) rfl (by kernel_rfl) (by kernel_rfl) (by kernel_rfl) (fun _ _ _ h => h) (Or.inl ⟨by rfl, ?_⟩) (by assumption) ?_
    rotate_left
    · intro w9 hSw
      obtain ⟨⟨g0, g1, g2, g3⟩, ⟨g4, g5, g6, g7⟩, k1⟩ := hSw
      go_simp
      try with_reducible rfl
    try simp only [Act.put, List.setIfInBounds_toArray, List.set_cons_zero, List.set_cons_succ]
    refine wpAnyH_take (i := 4) (oi := { dst := some 11, op := Op.fieldAddr 25 (Operand.tmp 1) 1, type := 0, pos := "work.go:17", after := #[{ on := 3, ground := Ground.guard }], guard := some (3, false) }) (v := _) rfl (by kernel_rfl) (by kernel_rfl) (by kernel_rfl) (fun _ _ _ h => h) (Or.inr ⟨by rfl, rfl⟩) (by assumption) ?_
    try simp only [Act.put, List.setIfInBounds_toArray, List.set_cons_zero, List.set_cons_succ]
    refine wpAnyH_take (i := 5) (oi := { dst := some 12, op := Op.load 23 (Operand.tmp 11), type := 23, pos := "work.go:17", after := #[{ on := 4, ground := Ground.data }, { on := 3, ground := Ground.guard }], guard := some (3, false) }) (v := _) rfl (by kernel_rfl) (by kernel_rfl) (by kernel_rfl) (fun _ _ _ h => h) (Or.inr ⟨by rfl, rfl⟩) (by assumption) ?_
    try simp only [Act.put, List.setIfInBounds_toArray, List.set_cons_zero, List.set_cons_succ]
    refine wpAnyH_take (i := 6) (oi := { dst := some 13, op := Op.call { callee := Callee.value (Operand.func 45), args := #[Operand.tmp 12], argTypes := #[23] }, type := 86, pos := "work.go:17", after := #[{ on := 5, ground := Ground.data }, { on := 3, ground := Ground.chain }, { on := 3, ground := Ground.guard }], guard := some (3, false) }) (v := _) rfl (by kernel_rfl) (by kernel_rfl) (by kernel_rfl) (fun _ _ _ h => h) (Or.inr ⟨by rfl, rfl⟩) (by assumption) ?_
    try simp only [Act.put, List.setIfInBounds_toArray, List.set_cons_zero, List.set_cons_succ]
    refine wpAnyH_take (i := 7) (oi := { dst := some 14, op := Op.call { callee := Callee.builtin Builtin.len, args := #[Operand.tmp 13], argTypes := #[86] }, type := 3, pos := "work.go:17", after := #[{ on := 6, ground := Ground.data }, { on := 6, ground := Ground.chain }, { on := 3, ground := Ground.guard }], guard := some (3, false) }) (v := _) rfl (by kernel_rfl) (by kernel_rfl) (by kernel_rfl) (fun _ _ _ h => h) (Or.inr ⟨by rfl, rfl⟩) (by assumption) ?_
    try simp only [Act.put, List.setIfInBounds_toArray, List.set_cons_zero, List.set_cons_succ]
    refine wpAnyH_take (i := 8) (oi := { dst := some 15, op := Op.fieldAddr 25 (Operand.tmp 1) 1, type := 0, pos := "work.go:17", after := #[{ on := 3, ground := Ground.guard }], guard := some (3, false) }) (v := _) rfl (by kernel_rfl) (by kernel_rfl) (by kernel_rfl) (fun _ _ _ h => h) (Or.inr ⟨by rfl, rfl⟩) (by assumption) ?_
    try simp only [Act.put, List.setIfInBounds_toArray, List.set_cons_zero, List.set_cons_succ]
    refine wpAnyH_take (i := 9) (oi := { dst := some 16, op := Op.load 23 (Operand.tmp 15), type := 23, pos := "work.go:17", after := #[{ on := 8, ground := Ground.data }, { on := 3, ground := Ground.guard }], guard := some (3, false) }) (v := _) rfl (by kernel_rfl) (by kernel_rfl) (by kernel_rfl) (fun _ _ _ h => h) (Or.inr ⟨by rfl, rfl⟩) (by assumption) ?_
    try simp only [Act.put, List.setIfInBounds_toArray, List.set_cons_zero, List.set_cons_succ]
    refine wpAnyH_take (i := 10) (oi := { dst := some 17, op := Op.call { callee := Callee.builtin Builtin.len, args := #[Operand.tmp 16], argTypes := #[23] }, type := 3, pos := "work.go:17", after := #[{ on := 9, ground := Ground.data }, { on := 3, ground := Ground.guard }], guard := some (3, false) }) (v := _) rfl (by kernel_rfl) (by kernel_rfl) (by kernel_rfl) (fun _ _ _ h => h) (Or.inr ⟨by rfl, rfl⟩) (by assumption) ?_
    try simp only [Act.put, List.setIfInBounds_toArray, List.set_cons_zero, List.set_cons_succ]
    refine wpAnyH_take (i := 11) (oi := { dst := some 18, op := Op.binOp BinOp.neq 3 (Operand.tmp 14) (Operand.tmp 17) 3, type := 4, pos := "work.go:17", after := #[{ on := 7, ground := Ground.data }, { on := 10, ground := Ground.data }, { on := 3, ground := Ground.guard }], guard := some (3, false) }) (v := _) rfl (by kernel_rfl) (by kernel_rfl) (by kernel_rfl) (fun _ _ _ h => h) (Or.inr ⟨by rfl, rfl⟩) (by assumption) ?_
    try simp only [Act.put, List.setIfInBounds_toArray, List.set_cons_zero, List.set_cons_succ]
    refine wpAnyH_take (i := 12) (oi := { dst := some 19, op := Op.pick (Operand.tmp 10) (Operand.const (Value.bool true)) (Operand.tmp 18), type := 4, pos := "work.go:17", after := #[{ on := 3, ground := Ground.data }, { on := 11, ground := Ground.data }], guard := none }) (v := ?_) rfl (by kernel_rfl) (by kernel_rfl) (by kernel_rfl) (fun _ _ _ h => h) (Or.inl ⟨by rfl, ?_⟩) (by assumption) ?_
    rotate_left
    · intro w9 hSw
      obtain ⟨⟨g0, g1, g2, g3⟩, ⟨g4, g5, g6, g7⟩, k1⟩ := hSw
      go_simp
      try with_reducible rfl
    try simp only [Act.put, List.setIfInBounds_toArray, List.set_cons_zero, List.set_cons_succ]
    refine wpAnyH_done (by kernel_rfl) ?_ _
    have HB3 := HB3
    clear hb3
    go_wp2_with fail
    go_ret
    exact ⟨rfl, HB3.out⟩
  case inl =>
    have hn := HTK.out h0
    subst h0
    obtain ⟨b, hbd⟩ : ∃ b, b = decide ((setR [] rs).length = rs.length) := ⟨_, rfl⟩
    have hR : R = if b = true then 0 else 130 := by
      rw [HR.out, hbd]
      by_cases e : (setR [] rs).length = rs.length
      · rw [if_pos (by simpa using e)]
        exact errW_ok (HW.out.2 ⟨rfl, e⟩)
      · rw [if_neg (by simpa using e)]
        exact errW_no (by
          cases e2 : wB (esOf cs) rs with
          | false => rfl
          | true => exact absurd (HW.out.1 e2).2 e)
    subst hR
    have HQ2 := Lib.hid (fun w' (hb : Below w.heap.size w w') => HQ.out (by omega) w' hb)
    have HBD := Lib.hid hbd
    have hn2 := hn
    clear hbd hn
    go_upto_region 2 with fail
    rw [HW2.out]
    refine wp_region_held_drew (S := fun w' => (w'.cell? ⟨w1.heap.size, 0, none⟩ = some (.int .u8 4) ∧ w'.cell? ⟨w1.heap.size, 1, none⟩ = some (.string ⟨#[]⟩) ∧ w'.cell? ⟨w1.heap.size, 2, none⟩ = some (.int .u64 0) ∧ w'.cell? ⟨w1.heap.size, 3, none⟩ = some (.int .u32 0)) ∧ (w'.cell? ⟨w1.heap.size, 4, none⟩ = some (.string ⟨#[97, 110, 121]⟩) ∧ w'.cell? ⟨w1.heap.size, 5, none⟩ = some (.string ⟨#[]⟩) ∧ w'.cell? ⟨w1.heap.size, 6, none⟩ = some (.slice A1 cs.length c1) ∧ w'.cell? ⟨w1.heap.size, 7, none⟩ = some (.slice A2 rs.length c2)) ∧ w'.cell? ⟨w.heap.size, 1, none⟩ = some (.slice A2 rs.length c2)) (by kernel_rfl) (HKEEP.out _ (Below.refl _ _)) (fun hHeld => ?_)
    refine wpAnyH_take (i := 0) (oi := { dst := some 7, op := Op.load 57 (Operand.tmp 3), type := 57, pos := "work.go:17", after := #[], guard := none }) (v := ?_) rfl (by kernel_rfl) (by kernel_rfl) (by kernel_rfl) (fun _ _ _ h => h) (Or.inl ⟨by rfl, ?_⟩) (by assumption) ?_
    rotate_left
    · intro w9 hSw
      obtain ⟨⟨g0, g1, g2, g3⟩, ⟨g4, g5, g6, g7⟩, k1⟩ := hSw
      go_simp
      try with_reducible rfl
    try simp only [Act.put, List.setIfInBounds_toArray, List.set_cons_zero, List.set_cons_succ]
    refine wpAnyH_ready (rs := [1]) (by kernel_rfl) (by simp) ?_
    refine AllReadyH.cons (o := { dst := some 8, op := Op.call { callee := Callee.value (Operand.func 31), args := #[Operand.tmp 7], argTypes := #[57] }, type := 42, pos := "work.go:17", after := #[{ on := 0, ground := Ground.data }], guard := none }) rfl (fun K hK => ?_) AllReadyH.nil
    go_simp
    refine HEC.out.mono ?_
    rintro e w3 ⟨rfl, hb3⟩
    have hS3 := HKEEP.out _ hb3
    have HB3 := Lib.hid (HB2.out.trans (hb3.mono HB2.out.size))
    refine hK.out _ _ hS3 (fun _ => ?_)
    clear hK K
    try simp only [Act.put, List.setIfInBounds_toArray, List.set_cons_zero, List.set_cons_succ]
    refine wpAnyH_take (i := 2) (oi := { dst := some 9, op := Op.binOp BinOp.neq 42 (Operand.tmp 8) (Operand.const (Value.int IntKind.i64 0)) 42, type := 4, pos := "work.go:17", after := #[{ on := 1, ground := Ground.data }], guard := none }) (v := ?_) rfl (by kernel_rfl) (by kernel_rfl) (by kernel_rfl) (fun _ _ _ h => h) (Or.inl ⟨by rfl, ?_⟩) (by assumption) ?_
    rotate_left
    · intro w9 hSw
      obtain ⟨⟨g0, g1, g2, g3⟩, ⟨g4, g5, g6, g7⟩, k1⟩ := hSw
      go_simp
      try with_reducible rfl
    try simp only [Act.put, List.setIfInBounds_toArray, List.set_cons_zero, List.set_cons_succ]
    refine wpAnyH_take (i := 3) (oi := { dst := some 10, op := Op.move (Operand.tmp 9), type := 4, pos := "work.go:17", after := #[{ on := 2, ground := Ground.data }, { on := 1, ground := Ground.chain }], guard := none }) (v := ?_) rfl (by kernel_rfl) (by kernel_rfl) (by kernel_rfl) (fun _ _ _ h => h) (Or.inl ⟨by rfl, ?_⟩) (by assumption) ?_
    rotate_left
    · intro w9 hSw
      obtain ⟨⟨g0, g1, g2, g3⟩, ⟨g4, g5, g6, g7⟩, k1⟩ := hSw
      go_simp
      try with_reducible rfl
    try simp only [Act.put, List.setIfInBounds_toArray, List.set_cons_zero, List.set_cons_succ]
    refine wpAnyH_take (i := 4) (oi := { dst := some 11, op := Op.fieldAddr 25 (Operand.tmp 1) 1, type := 0, pos := "work.go:17", after := #[{ on := 3, ground := Ground.guard }], guard := some (3, false) }) (v := ?_) rfl (by kernel_rfl) (by kernel_rfl) (by kernel_rfl) (fun _ _ _ h => h) (Or.inl ⟨by rfl, ?_⟩) (by assumption) ?_
    rotate_left
    · intro w9 hSw
      obtain ⟨⟨g0, g1, g2, g3⟩, ⟨g4, g5, g6, g7⟩, k1⟩ := hSw
      go_simp
      try with_reducible rfl
    try simp only [Act.put, List.setIfInBounds_toArray, List.set_cons_zero, List.set_cons_succ]
    refine wpAnyH_take (i := 5) (oi := { dst := some 12, op := Op.load 23 (Operand.tmp 11), type := 23, pos := "work.go:17", after := #[{ on := 4, ground := Ground.data }, { on := 3, ground := Ground.guard }], guard := some (3, false) }) (v := ?_) rfl (by kernel_rfl) (by kernel_rfl) (by kernel_rfl) (fun _ _ _ h => h) (Or.inl ⟨by rfl, ?_⟩) (by assumption) ?_
    rotate_left
    · intro w9 hSw
      obtain ⟨⟨g0, g1, g2, g3⟩, ⟨g4, g5, g6, g7⟩, k1⟩ := hSw
      go_simp
      try with_reducible rfl
    try simp only [Act.put, List.setIfInBounds_toArray, List.set_cons_zero, List.set_cons_succ]
    refine wpAnyH_take (i := 8) (oi := { dst := some 15, op := Op.fieldAddr 25 (Operand.tmp 1) 1, type := 0, pos := "work.go:17", after := #[{ on := 3, ground := Ground.guard }], guard := some (3, false) }) (v := ?_) rfl (by kernel_rfl) (by kernel_rfl) (by kernel_rfl) (fun _ _ _ h => h) (Or.inl ⟨by rfl, ?_⟩) (by assumption) ?_
    rotate_left
    · intro w9 hSw
      obtain ⟨⟨g0, g1, g2, g3⟩, ⟨g4, g5, g6, g7⟩, k1⟩ := hSw
      go_simp
      try with_reducible rfl
    try simp only [Act.put, List.setIfInBounds_toArray, List.set_cons_zero, List.set_cons_succ]
    refine wpAnyH_take (i := 9) (oi := { dst := some 16, op := Op.load 23 (Operand.tmp 15), type := 23, pos := "work.go:17", after := #[{ on := 8, ground := Ground.data }, { on := 3, ground := Ground.guard }], guard := some (3, false) }) (v := ?_) rfl (by kernel_rfl) (by kernel_rfl) (by kernel_rfl) (fun _ _ _ h => h) (Or.inl ⟨by rfl, ?_⟩) (by assumption) ?_
    rotate_left
    · intro w9 hSw
      obtain ⟨⟨g0, g1, g2, g3⟩, ⟨g4, g5, g6, g7⟩, k1⟩ := hSw
      go_simp
      try with_reducible rfl
    try simp only [Act.put, List.setIfInBounds_toArray, List.set_cons_zero, List.set_cons_succ]
    refine wpAnyH_take (i := 10) (oi := { dst := some 17, op := Op.call { callee := Callee.builtin Builtin.len, args := #[Operand.tmp 16], argTypes := #[23] }, type := 3, pos := "work.go:17", after := #[{ on := 9, ground := Ground.data }, { on := 3, ground := Ground.guard }], guard := some (3, false) }) (v := ?_) rfl (by kernel_rfl) (by kernel_rfl) (by kernel_rfl) (fun _ _ _ h => h) (Or.inl ⟨by rfl, ?_⟩) (by assumption) ?_
    rotate_left
    · intro w9 hSw
      obtain ⟨⟨g0, g1, g2, g3⟩, ⟨g4, g5, g6, g7⟩, k1⟩ := hSw
      go_simp
      try with_reducible rfl
    try simp only [Act.put, List.setIfInBounds_toArray, List.set_cons_zero, List.set_cons_succ]
    refine wpAnyH_ready (rs := [6]) (by kernel_rfl) (by simp) ?_
    refine AllReadyH.cons (o := { dst := some 13, op := Op.call { callee := Callee.value (Operand.func 45), args := #[Operand.tmp 12], argTypes := #[23] }, type := 86, pos := "work.go:17", after := #[{ on := 5, ground := Ground.data }, { on := 3, ground := Ground.chain }, { on := 3, ground := Ground.guard }], guard := some (3, false) }) rfl (fun K hK => ?_) AllReadyH.nil
    go_simp
    refine (HQ2.out _ HB3.out).mono ?_
    rintro e w4 ⟨mb, L, rfl, hm, hL, hb4⟩
    have hS4 := HKEEP.out _ (hb3.trans (hb4.mono hb3.size))
    have HB4 := Lib.hid (HB3.out.trans (hb4.mono HB3.out.size))
    have hlen := hm.len Tryz.underlying86 3
    have hll : L.length = (setR [] rs).length := by rw [← hL, List.length_map]
    rw [hll] at hlen
    refine hK.out _ _ hS4 (fun _ => ?_)
    clear hK K
    try simp only [Act.put, List.setIfInBounds_toArray, List.set_cons_zero, List.set_cons_succ]
    refine wpAnyH_ready (rs := [7]) (by kernel_rfl) (by simp) ?_
    refine AllReadyH.cons (o := { dst := some 14, op := Op.call { callee := Callee.builtin Builtin.len, args := #[Operand.tmp 13], argTypes := #[86] }, type := 3, pos := "work.go:17", after := #[{ on := 6, ground := Ground.data }, { on := 6, ground := Ground.chain }, { on := 3, ground := Ground.guard }], guard := some (3, false) }) rfl (fun K hK => ?_) AllReadyH.nil
    go_simp
    refine hK.out _ _ hS4 (fun _ => ?_)
    clear hK K
    try simp only [Act.put, List.setIfInBounds_toArray, List.set_cons_zero, List.set_cons_succ]
    refine wpAnyH_take (i := 11) (oi := { dst := some 18, op := Op.binOp BinOp.neq 3 (Operand.tmp 14) (Operand.tmp 17) 3, type := 4, pos := "work.go:17", after := #[{ on := 7, ground := Ground.data }, { on := 10, ground := Ground.data }, { on := 3, ground := Ground.guard }], guard := some (3, false) }) (v := ?_) rfl (by kernel_rfl) (by kernel_rfl) (by kernel_rfl) (fun _ _ _ h => h) (Or.inl ⟨by rfl, ?_⟩) (by assumption) ?_
    rotate_left
    · intro w9 hSw
      obtain ⟨⟨g0, g1, g2, g3⟩, ⟨g4, g5, g6, g7⟩, k1⟩ := hSw
      go_simp
      try with_reducible rfl
    try simp only [Act.put, List.setIfInBounds_toArray, List.set_cons_zero, List.set_cons_succ]
    refine wpAnyH_take (i := 12) (oi := { dst := some 19, op := Op.pick (Operand.tmp 10) (Operand.const (Value.bool true)) (Operand.tmp 18), type := 4, pos := "work.go:17", after := #[{ on := 3, ground := Ground.data }, { on := 11, ground := Ground.data }], guard := none }) (v := ?_) rfl (by kernel_rfl) (by kernel_rfl) (by kernel_rfl) (fun _ _ _ h => h) (Or.inl ⟨by rfl, ?_⟩) (by assumption) ?_
    rotate_left
    · intro w9 hSw
      obtain ⟨⟨g0, g1, g2, g3⟩, ⟨g4, g5, g6, g7⟩, k1⟩ := hSw
      go_simp
      try with_reducible rfl
    try simp only [Act.put, List.setIfInBounds_toArray, List.set_cons_zero, List.set_cons_succ]
    refine wpAnyH_done (by kernel_rfl) ?_ _
    have ht : ((((setR [] rs).length : Nat) : Int) != ((rs.length : Nat) : Int)) = !b := by
      rw [HBD.out, Bool.eq_iff_iff]
      simp
      omega
    rw [ht]
    clear hlen hm hL hb4 hb3 hll ht
    cases b
    all_goals
      go_wp2_with fail
      go_ret
      exact ⟨rfl, HB4.out⟩

end Go.Proofs.YtpmafabphlejeaaGreat
/-
  The contracts of the program's ifValid, Empty, Into, From, hasNumbers.
  Conditions: none but sizes.
-/
namespace Go.Proofs.YtpmafabphlejeaaGreat
open Go.RowKit
set_option linter.unusedVariables false
set_option linter.unusedSimpArgs false
set_option maxRecDepth 100000

theorem fieldW0 (v1 v2 : Value) (u : World) : Sem.run Tryz.prog (Instr.field 25 (.agg #[v1, v2]) 0) u = .ok v1 u := by kernel_rfl
theorem fieldW1 (v1 v2 : Value) (u : World) : Sem.run Tryz.prog (Instr.field 25 (.agg #[v1, v2]) 1) u = .ok v2 u := by kernel_rfl

theorem hasnum_core (K N Q Z : Int) (b0 b1 b2 b3 : Bool) (t0 : (K == 0) = b0) (t1 : decide ((1 : Int) ≤ N) = b1) (t2 : decide (N ≤ (1099511627776 : Int)) = b2) (t3 : b0 = false → b1 = true → b2 = true → IntKind.i64.wrap (K - 1) = Q ∧ IntKind.u64.wrap Q = Q ∧ IntKind.u64.wrap (1099511627776 - N) = Z ∧ decide (Q ≤ Z) = b3) (w : World) :
    Calls Tryz.prog 46 #[.int .i64 K, .int .u64 N] w fun e w' => e = .returned (.bool (b0 || (b1 && (b2 && b3)))) ∧ w = w' := by
  cases b0
  case true =>
    clear t1 t2 t3
    go_enter Tryz.func46, Tryz.ntmps46
    go_wp2_with fail
    go_ret
    exact ⟨rfl, rfl⟩
  cases b1
  case false =>
    clear t2 t3
    go_enter Tryz.func46, Tryz.ntmps46
    go_wp2_with fail
    go_ret
    exact ⟨rfl, rfl⟩
  cases b2
  case false =>
    clear t3
    go_enter Tryz.func46, Tryz.ntmps46
    go_wp2_with fail
    go_ret
    exact ⟨rfl, rfl⟩
  obtain ⟨s3, s4, s5, s6⟩ := t3 rfl rfl rfl
  clear t3
  go_enter Tryz.func46, Tryz.ntmps46
  go_wp2_with fail
  go_ret
  exact ⟨rfl, rfl⟩
theorem hasnum_any (k n : Nat) (w : World) (hk : k ≤ 1000000) (hn : n < 18446744073709551616) : Calls Tryz.prog 46 #[.int .i64 k, .int .u64 n] w fun e w' => e = .returned (.bool (hasNum k n)) ∧ w = w' := by
  have h := hasnum_core (k : Int) (n : Int) ((k - 1 : Nat) : Int) ((1099511627776 - n : Nat) : Int) (decide (k = 0)) (decide (1 ≤ n)) (decide (n ≤ 1099511627776)) (decide (k - 1 ≤ 1099511627776 - n))
    (by rw [Bool.eq_iff_iff]; simp) (by rw [Bool.eq_iff_iff]; simp only [decide_eq_true_eq]; omega) (by rw [Bool.eq_iff_iff]; simp only [decide_eq_true_eq]; omega)
    (fun h0 h1 h2 => by
      rw [decide_eq_false_iff_not] at h0
      rw [decide_eq_true_eq] at h1 h2
      refine ⟨by rw [i64_id _ (by omega) (by omega)]; omega, by rw [IntKind.wrap_u64]; omega, by rw [IntKind.wrap_u64]; omega, by rw [Bool.eq_iff_iff]; simp only [decide_eq_true_eq]; omega⟩) w
  have e : (decide (k = 0) || (decide (1 ≤ n) && (decide (n ≤ 1099511627776) && decide (k - 1 ≤ 1099511627776 - n)))) = hasNum k n := by
    unfold hasNum
    rw [Bool.eq_iff_iff]
    simp only [Bool.or_eq_true, Bool.and_eq_true, decide_eq_true_eq]
  rw [e] at h
  exact h

/-- The work that is looked at: it, if it may be, or none. -/
noncomputable def ifW (x : WorkC) : WorkC := if wB x.ps x.rs = true then x else zW
theorem ifW_ok {x : WorkC} (h : wB x.ps x.rs = true) : ifW x = x := if_pos h
theorem ifW_no {x : WorkC} (h : wB x.ps x.rs = false) : ifW x = zW := if_neg (by rw [h]; decide)
theorem ifW_shows {w : World} {x : WorkC} (h : ShowsW w x) : ShowsW w (ifW x) := by
  unfold ifW
  split
  · exact h
  · exact ShowsW.nil w
set_option maxHeartbeats 1000000 in
theorem ifvalid_any (x : WorkC) (w : World) (h : ShowsW w x) (hf : Few x.cs) : Calls Tryz.prog 50 #[workVal x] w fun e w' => e = .returned (workVal (ifW x)) ∧ Below w.heap.size w w' := by
  have HC := Lib.hid (fun w' (hb : Below w.heap.size w w') => wcheck_any x w' (h.kept hb (Nat.le_refl _)) hf)
  cases hv : wB x.ps x.rs
  case true =>
    rw [ifW_ok hv]
    rw [errW_ok hv] at HC
    clear h hf hv
    obtain ⟨A1, c1, cs, A2, c2, rs⟩ := x
    unfold workVal at *
    simp only [] at *
    obtain ⟨W2, hW2⟩ : ∃ W2, W2 = (w.alloc (Obj.cells #[.slice A1 cs.length c1, .slice A2 rs.length c2] 25)).alloc (Obj.cells #[.slice none 0 0, .slice none 0 0] 25) := ⟨_, rfl⟩
    have hA0 : At2 w (.slice A1 cs.length c1) (.slice A2 rs.length c2) W2 := by rw [hW2]; exact At2.new w _ _
    obtain ⟨k0, k1⟩ := hA0.cs
    have HW2 := Lib.hid hW2.symm
    have HA0 := Lib.hid hA0
    clear hW2 hA0
    go_enter Tryz.func50, Tryz.ntmps50
    go_upto_region 1 with fail
    rw [HW2.out]
    go_wp2_with fail
    refine (HC.out _ HA0.out.bel).mono ?_
    rintro e w3 ⟨rfl, hb3⟩
    have hA3 := HA0.out.step hb3
    clear k0 k1
    obtain ⟨k0, k1⟩ := hA3.cs
    have z0 := hA3.z.c0
    have z1 := hA3.z.c1
    have f0 := hA3.z.fr 0
    have f1 := hA3.z.fr 1
    have hX := (hA3.z.set0 (.slice A1 cs.length c1)).set1 (.slice A2 rs.length c2)
    have hB : Below w.heap.size w ((w3.setCell ⟨w.heap.size + 1, 0, none⟩ (.slice A1 cs.length c1)).setCell ⟨w.heap.size + 1, 1, none⟩ (.slice A2 rs.length c2)) := below_set (below_set hA3.bel (by show w.heap.size ≤ w.heap.size + 1; omega) _) (by show w.heap.size ≤ w.heap.size + 1; omega) _
    have HX := Lib.hid (And.intro hX hB)
    clear hX hB hb3 hA3
    go_wp2_with fail
    exact bodyPost_ret (results_cell_row rfl _ _ (w.heap.size + 1) 25 _ (0, 0) _ rfl HX.out.1 Tryz.underlying25 rfl (by kernel_rfl)) rfl ⟨rfl, HX.out.2⟩
  case false =>
    rw [ifW_no hv]
    rw [errW_no hv] at HC
    clear h hf hv
    obtain ⟨A1, c1, cs, A2, c2, rs⟩ := x
    unfold workVal zW at *
    simp only [] at *
    obtain ⟨W2, hW2⟩ : ∃ W2, W2 = (w.alloc (Obj.cells #[.slice A1 cs.length c1, .slice A2 rs.length c2] 25)).alloc (Obj.cells #[.slice none 0 0, .slice none 0 0] 25) := ⟨_, rfl⟩
    have hA0 : At2 w (.slice A1 cs.length c1) (.slice A2 rs.length c2) W2 := by rw [hW2]; exact At2.new w _ _
    obtain ⟨k0, k1⟩ := hA0.cs
    have HW2 := Lib.hid hW2.symm
    have HA0 := Lib.hid hA0
    clear hW2 hA0
    go_enter Tryz.func50, Tryz.ntmps50
    go_upto_region 1 with fail
    rw [HW2.out]
    go_wp2_with fail
    refine (HC.out _ HA0.out.bel).mono ?_
    rintro e w3 ⟨rfl, hb3⟩
    have hA3 := HA0.out.step hb3
    clear k0 k1
    have z0 := hA3.z.c0
    have z1 := hA3.z.c1
    have f0 := hA3.z.fr 0
    have f1 := hA3.z.fr 1
    have hX := (hA3.z.set0 (.slice none 0 0)).set1 (.slice none 0 0)
    have hB : Below w.heap.size w ((w3.setCell ⟨w.heap.size + 1, 0, none⟩ (.slice none 0 0)).setCell ⟨w.heap.size + 1, 1, none⟩ (.slice none 0 0)) := below_set (below_set hA3.bel (by show w.heap.size ≤ w.heap.size + 1; omega) _) (by show w.heap.size ≤ w.heap.size + 1; omega) _
    have HX := Lib.hid (And.intro hX hB)
    clear hX hB hb3 hA3
    go_wp2_with fail
    exact bodyPost_ret (results_cell_row rfl _ _ (w.heap.size + 1) 25 _ (0, 0) _ rfl HX.out.1 Tryz.underlying25 rfl (by kernel_rfl)) rfl ⟨rfl, HX.out.2⟩

end Go.Proofs.YtpmafabphlejeaaGreat
/-
  The contracts of the program's Empty, Into, From.
  Conditions: none but sizes.
-/
namespace Go.Proofs.YtpmafabphlejeaaGreat
open Go.RowKit
set_option linter.unusedVariables false
set_option linter.unusedSimpArgs false
set_option maxRecDepth 100000

theorem ifW_len {x : WorkC} : (ifW x).cs.length ≤ 100 ∧ (ifW x).rs.length ≤ 100 := by
  unfold ifW
  split
  · rename_i h
    have hv := wB_iff.1 h
    refine ⟨?_, hv.2.1⟩
    have := hv.1
    unfold WorkC.ps at this
    rw [esOf_len] at this
    exact this
  · exact ⟨by simp [zW], by simp [zW]⟩

set_option maxHeartbeats 1000000 in
theorem empty_any (x : WorkC) (w : World) (h : ShowsW w x) (hf : Few x.cs) : Calls Tryz.prog 25 #[workVal x] w fun e w' => e = .returned (.bool (decide ((ifW x).cs.length + (ifW x).rs.length = 0))) ∧ Below w.heap.size w w' := by
  have HC := Lib.hid (fun w' (hb : Below w.heap.size w w') => ifvalid_any x w' (h.kept hb (Nat.le_refl _)) hf)
  obtain ⟨R, hR⟩ : ∃ R, R = decide ((ifW x).cs.length + (ifW x).rs.length = 0) := ⟨_, rfl⟩
  rw [← hR]
  have hlen := ifW_len (x := x)
  have t1 : IntKind.i64.wrap (((ifW x).cs.length : Int) + ((ifW x).rs.length : Int)) = (((ifW x).cs.length + (ifW x).rs.length : Nat) : Int) := by rw [i64_id _ (by omega) (by omega)]; omega
  have t2 : ((((ifW x).cs.length + (ifW x).rs.length : Nat) : Int) == 0) = R := by rw [hR, Bool.eq_iff_iff]; simp only [decide_eq_true_eq, beq_iff_eq]; omega
  generalize (ifW x).cs.length + (ifW x).rs.length = N at *
  clear hR hlen h hf
  generalize ifW x = y at *
  obtain ⟨B1, b1, ds, B2, b2, ss⟩ := y
  obtain ⟨A1, c1, cs, A2, c2, rs⟩ := x
  unfold workVal at *
  simp only [] at *
  have hB0 := below_boxV w (Obj.cells #[.slice A1 cs.length c1, .slice A2 rs.length c2] 25)
  have hX0 := BoxK.new w (.slice A1 cs.length c1) (.slice A2 rs.length c2)
  have k0 := hX0.c0
  have k1 := hX0.c1
  have H0 := Lib.hid (And.intro hB0 hX0)
  clear hB0 hX0
  go_enter Tryz.func25, Tryz.ntmps25
  go_wp2_with fail
  refine (HC.out _ H0.out.1).mono ?_
  rintro e w1 ⟨rfl, hb1⟩
  obtain ⟨hB0, hX0⟩ := H0.out
  have hX1 := hX0.kept hb1 (Nat.le_refl _)
  clear k0 k1
  have k0 := hX1.c0
  have k1 := hX1.c1
  have f0 := hX1.fr 0
  have f1 := hX1.fr 1
  have hX2 := (hX1.set0 (.slice B1 ds.length b1)).set1 (.slice B2 ss.length b2)
  have y0 := hX2.c0
  have y1 := hX2.c1
  have HB2 := Lib.hid (show Below w.heap.size w ((w1.setCell ⟨w.heap.size, 0, none⟩ (.slice B1 ds.length b1)).setCell ⟨w.heap.size, 1, none⟩ (.slice B2 ss.length b2)) from below_set (below_set (hB0.trans (hb1.mono hB0.size)) (Nat.le_refl w.heap.size) _) (Nat.le_refl w.heap.size) _)
  clear hX2 hX1 hX0 hB0 hb1
  go_wp2_with fail
  go_ret
  exact ⟨rfl, HB2.out⟩

def intoD (ps : List PutE) (q : ByteArray) : Nat := (ps.filter fun p => decide (p.q = q)).length
theorem intoD_step (ps : List PutE) (q : ByteArray) (j : Nat) (h : j < ps.length) : intoD (ps.take (j + 1)) q = intoD (ps.take j) q + if ps[j].q = q then 1 else 0 := by
  unfold intoD
  rw [List.take_succ_eq_append_getElem h, List.filter_append, List.length_append]
  congr 1
  by_cases e : ps[j].q = q
  · rw [if_pos e]; simp [e]
  · rw [if_neg e]; simp [e]
theorem intoD_le (ps : List PutE) (q : ByteArray) : intoD ps q ≤ ps.length := List.length_filter_le _ _
def fromD (rs : List RefE) (q : ByteArray) : List Nat := (rs.filter fun r => decide (r.q = q)).map (·.id)
theorem fromD_step (rs : List RefE) (q : ByteArray) (j : Nat) (h : j < rs.length) : fromD (rs.take (j + 1)) q = fromD (rs.take j) q ++ if rs[j].q = q then [rs[j].id] else [] := by
  unfold fromD
  rw [List.take_succ_eq_append_getElem h, List.filter_append, List.map_append]
  congr 1
  by_cases e : rs[j].q = q
  · rw [if_pos e]; simp [e]
  · rw [if_neg e]; simp [e]
theorem fromD_le (rs : List RefE) (q : ByteArray) : (fromD rs q).length ≤ rs.length := by unfold fromD; rw [List.length_map]; exact List.length_filter_le _ _
theorem infoN64 : (Tryz.prog.info? 26).map (fun i => (i.zero, i.size, i.bytes)) = some (some (.int .u64 0), (natC .u64).sz, 8) := by kernel_rfl
theorem bytes_beq (a b : ByteArray) : (a.toList == b.toList) = decide (a = b) := toList_beq a b

set_option maxHeartbeats 2000000 in
theorem into_any (x : WorkC) (q : ByteArray) (w : World) (h : ShowsW w x) (hf : Few x.cs) : Calls Tryz.prog 26 #[workVal x, .string q] w fun e w' => e = .returned (.int .i64 (intoD (ifW x).ps q)) ∧ Below w.heap.size w w' := by
  have HC := Lib.hid (fun w' (hb : Below w.heap.size w w') => ifvalid_any x w' (h.kept hb (Nat.le_refl _)) hf)
  have hlen := ifW_len (x := x)
  have HS := Lib.hid (ifW_shows h).puts
  have HP := Lib.hid (show (ifW x).ps = esOf (ifW x).cs from rfl)
  clear h hf
  generalize ifW x = y at *
  obtain ⟨B1, b1, ds, B2, b2, ss⟩ := y
  obtain ⟨A1, c1, cs, A2, c2, rs⟩ := x
  unfold workVal at *
  simp only [WorkC.ps] at *
  have hfl := fun u => fieldW0 (.slice B1 ds.length b1) (.slice B2 ss.length b2) u
  have hB0 := below_boxV w (Obj.cells #[.slice A1 cs.length c1, .slice A2 rs.length c2] 25)
  have hX0 := BoxK.new w (.slice A1 cs.length c1) (.slice A2 rs.length c2)
  have k0 := hX0.c0
  have k1 := hX0.c1
  have H0 := Lib.hid hB0
  have hl100 := hlen.1
  clear hB0 hX0 hlen
  go_enter Tryz.func26, Tryz.ntmps26
  go_wp2_with fail
  refine (HC.out _ H0.out).mono ?_
  rintro e w1 ⟨rfl, hb1⟩
  have HB1 := Lib.hid (H0.out.trans (hb1.mono H0.out.size))
  clear k0 k1 hb1
  go_wp2_with fail
  go_loopw [5, 12] (fun nv iv wr => ∃ (j m : Nat), j ≤ ds.length ∧ m ≤ 100 ∧ nv = .int .i64 m ∧ iv = .int .i64 j ∧ Hid (m = intoD ((esOf ds).take j) q) ∧ Hid (Below w.heap.size w wr)) (fun _ i _ => ds.length - (intOf i).toNat)
  case atStart => exact ⟨0, 0, by omega, by omega, rfl, rfl, Lib.hid (by simp [intoD]), HB1⟩
  case round =>
    rename World => wr
    obtain ⟨j, m, hj, hm, rfl, rfl, hes, hb⟩ := hrel
    by_cases hlt : j < ds.length
    · obtain ⟨d, o, rfl, hd, ⟨e0, e1, e2, e3, e4, e5⟩, e6, e7, e8, e9, e10, e11⟩ := (HS.out.kept hb.out (Nat.le_refl _)).at_ j hlt
      have hj1 : (j : Int) < (ds.length : Int) := by omega
      have b3 : IntKind.i64.wrap ((j : Int) + 1) = (j : Int) + 1 := i64_id _ (by omega) (by omega)
      have b4 : IntKind.i64.wrap ((m : Int) + 1) = (m : Int) + 1 := i64_id _ (by omega) (by omega)
      have hbs := hb.out.size
      have hB1 := below_boxV wr (Obj.cells #[.string ds[j].e.q, .int .u64 ds[j].e.id, .string ds[j].e.p.key, .bool ds[j].e.p.dur, .bool ds[j].e.p.red, .string ds[j].e.p.id, .int .u8 ds[j].x.k, .int .u64 ds[j].x.n, .string ds[j].x.s, .slice ds[j].x.a3 ds[j].x.n3 ds[j].x.c3, .slice ds[j].x.a4 ds[j].x.n4 ds[j].x.c4, .string ds[j].e.body] 35)
      have HB2 := Lib.hid (hb.out.trans (hB1.mono hbs))
      have hst := intoD_step (esOf ds) q j (by rw [esOf_len]; exact hlt)
      rw [esOf_get ds j hlt, ← hes.out] at hst
      have hle := intoD_le ((esOf ds).take (j + 1)) q
      have hbe := bytes_beq ds[j].e.q q
      rw [List.length_take, esOf_len] at hle
      by_cases e : ds[j].e.q = q
      · have HT := Lib.hid (show m + 1 = intoD ((esOf ds).take (j + 1)) q by rw [hst, if_pos e])
        have HM := Lib.hid (show m + 1 ≤ 100 by rw [HT.out]; omega)
        rw [decide_eq_true e] at hbe
        clear hst e hle hB1
        go_wp2_with fail
        go_roundw
        case rel => exact ⟨j + 1, m + 1, by omega, HM.out, by go_num, by go_num, HT, HB2⟩
        case measure => simp [intOf]; omega
      · have HT := Lib.hid (show m = intoD ((esOf ds).take (j + 1)) q by rw [hst, if_neg e]; omega)
        rw [decide_eq_false e] at hbe
        clear hst e hle hB1
        go_wp2_with fail
        go_roundw
        case rel => exact ⟨j + 1, m, by omega, hm, by go_num, by go_num, HT, HB2⟩
        case measure => simp [intOf]; omega
    · have hj1 : ¬ (j : Int) < (ds.length : Int) := by omega
      have HT := Lib.hid (show m = intoD (esOf ds) q by rw [hes.out, List.take_of_length_le (by rw [esOf_len]; omega)])
      go_wp2_with fail
      go_ret
      exact ⟨by rw [← HT.out]; rfl, hb.out⟩

set_option maxHeartbeats 2000000 in
theorem from_any (x : WorkC) (q : ByteArray) (w : World) (h : ShowsW w x) (hf : Few x.cs) : Calls Tryz.prog 29 #[workVal x, .string q] w fun e w' => ∃ v, e = .returned v ∧ OwnG (natC .u64) 26 w' w.heap.size v (fromD (ifW x).rs q) ∧ Below w.heap.size w w' := by
  have HC := Lib.hid (fun w' (hb : Below w.heap.size w w') => ifvalid_any x w' (h.kept hb (Nat.le_refl _)) hf)
  have hlen := ifW_len (x := x)
  have HS := Lib.hid (ifW_shows h).takes
  clear h hf
  generalize ifW x = y at *
  obtain ⟨B1, b1, ds, B2, b2, ss⟩ := y
  obtain ⟨A1, c1, cs, A2, c2, rs⟩ := x
  unfold workVal at *
  simp only [WorkC.ps] at *
  have hfl := fun u => fieldW1 (.slice B1 ds.length b1) (.slice B2 ss.length b2) u
  have hB0 := below_boxV w (Obj.cells #[.slice A1 cs.length c1, .slice A2 rs.length c2] 25)
  have hX0 := BoxK.new w (.slice A1 cs.length c1) (.slice A2 rs.length c2)
  have k0 := hX0.c0
  have k1 := hX0.c1
  have H0 := Lib.hid hB0
  have hl100 := hlen.2
  clear hB0 hX0 hlen
  go_enter Tryz.func29, Tryz.ntmps29
  go_wp2_with fail
  refine (HC.out _ H0.out).mono ?_
  rintro e w1 ⟨rfl, hb1⟩
  have HB1 := Lib.hid (H0.out.trans (hb1.mono H0.out.size))
  clear k0 k1 hb1
  go_wp2_with fail
  go_loopw [5, 12] (fun lv iv wr => ∃ (j : Nat) (l : List Nat), j ≤ ss.length ∧ iv = .int .i64 j ∧ Hid (OwnG (natC .u64) 26 wr w.heap.size lv l) ∧ Hid (l = fromD (ss.take j) q) ∧ Hid (Below w.heap.size w wr)) (fun _ i _ => ss.length - (intOf i).toNat)
  case atStart => exact ⟨0, [], by omega, rfl, Lib.hid (OwnG.nil_ _ _ _ _), Lib.hid (by simp [fromD]), HB1⟩
  case round =>
    rename World => wr
    obtain ⟨j, l, hj, rfl, ho, hes, hb⟩ := hrel
    obtain ⟨Al, cl, hlv, hlc, _⟩ := ho.out.form
    subst hlv
    by_cases hlt : j < ss.length
    · obtain ⟨d, o, rfl, hd, c0, c1⟩ := (HS.out.kept hb.out (Nat.le_refl _)).at_ j hlt
      have hj1 : (j : Int) < (ss.length : Int) := by omega
      have b3 : IntKind.i64.wrap ((j : Int) + 1) = (j : Int) + 1 := i64_id _ (by omega) (by omega)
      have hbs := hb.out.size
      have hst := fromD_step ss q j hlt
      rw [← hes.out] at hst
      have hle := fromD_le (ss.take j) q
      rw [← hes.out, List.length_take] at hle
      have HLE := Lib.hid (show l.length ≤ 100 by omega)
      have hbe := bytes_beq ss[j].q q
      generalize ss[j] = r at *
      have hB1 := below_boxV wr (Obj.cells #[.string r.q, .int .u64 r.id] 37)
      have hX1 := BoxR2.new wr r
      have g0 := hX1.c0
      have g1 := hX1.c1
      have hb2 := hb.out.trans (hB1.mono hbs)
      by_cases e : r.q = q
      · have HT := Lib.hid (show l ++ [r.id] = fromD (ss.take (j + 1)) q by rw [hst, if_pos e])
        rw [decide_eq_true e] at hbe
        obtain ⟨W2, hW2⟩ : ∃ W2, W2 = wr.alloc (Obj.cells #[.string r.q, .int .u64 r.id] 37) := ⟨_, rfl⟩
        have hz2 : W2.heap.size = wr.heap.size + 1 := by rw [hW2]; simp
        rw [← hW2] at hB1 hX1 g0 g1 hb2
        have hB5 := below_boxV W2 (Obj.cells #[.int .u64 r.id] 26)
        have hm : ShowsG (natC .u64) (W2.alloc (Obj.cells #[.int .u64 r.id] 26)) W2.heap.size (.slice (some ⟨W2.heap.size, 0, none⟩) 1 1) [r.id] := ShowsG.lit (C := natC .u64) [r.id] (by simp [Code.all, natC]) (by simp [maxLen])
        have ho5 := (ho.out.below hB1 (Nat.le_refl _)).below hB5 (Nat.le_refl _)
        have HB5 := Lib.hid (And.intro hb2 hB5)
        have hz5 := hB5.size
        have hz1 := hB1.size
        have HW2 := Lib.hid hW2.symm
        clear hst e hle hB1 hX1 hb2 hB5 hlc hd hW2 hz2
        go_upto_region 5 with fail
        rw [HW2.out]
        go_wp2_with (at_builtin
                     refine wpList_appendG (natC .u64) _ rfl (.tmp 20) (.tmp 23) 69 rfl w.heap.size 26 _ 8 Tryz.underlying69 infoN64 rfl _ _ rfl ho5 _ _ _ rfl hm (by have := HLE.out; simp only [List.length_singleton]; omega) (by have := HLE.out; simp only [List.length_singleton]; omega) (by omega) ?_
                     intro v6 w6 ho6 hg6)
        obtain ⟨hb2, hB5⟩ := HB5.out
        have HO6 := Lib.hid ho6
        have HB6 := Lib.hid ((hb2.trans (hB5.mono hb2.size)).grown hg6 (by omega) (fun i hi => (ho5.block i hi).1))
        go_roundw
        case rel => exact ⟨j + 1, _, by omega, by go_num, HO6, HT, HB6⟩
        case measure => simp [intOf]; omega
      · have HT := Lib.hid (show l = fromD (ss.take (j + 1)) q by rw [hst, if_neg e, List.append_nil])
        rw [decide_eq_false e] at hbe
        have HB2 := Lib.hid hb2
        have HO2 := Lib.hid (ho.out.below hB1 (Nat.le_refl _))
        clear hst e hle hB1 hX1 hb2 hlc hd
        go_wp2_with fail
        go_roundw
        case rel => exact ⟨j + 1, l, by omega, by go_num, HO2, HT, HB2⟩
        case measure => simp [intOf]; omega
    · have hj1 : ¬ (j : Int) < (ss.length : Int) := by omega
      have HT := Lib.hid (show l = fromD ss q by rw [hes.out, List.take_of_length_le (by omega)])
      clear hlc
      go_wp2_with fail
      go_ret
      exact ⟨_, rfl, by rw [← HT.out]; exact ho.out, hb.out⟩

end Go.Proofs.YtpmafabphlejeaaGreat
