/-
  The contract of the document's Copy of an entry.
  Conditions: none but sizes.
-/
import Derived.Test.YtfplgaeeiglhdaaGreatEnCpZ
namespace Go.Proofs.YtfplgaeeiglhdaaGreat
open Go.RowKit
set_option linter.unusedVariables false
set_option linter.unusedSimpArgs false
set_option maxRecDepth 100000

/-- What Copy tells. -/
def ECopySaid (x : EntC) (w : World) (e : Ending) (w' : World) : Prop := ∃ y : EntC, e = .returned (entV y) ∧ y.e = x.e ∧ ShowsE (lowm w.heap.size w') y ∧ Few y.cs ∧ Below w.heap.size w w'
/-- Copy under way: the copy's box at q. -/
structure CpE (w : World) (x : EntC) (q : Nat) (y : EntC) (wx : World) : Prop where
  box : BoxE wx w.heap.size x
  res : wx.heap[w.heap.size + 1]? = some zEnt
  own : BoxE wx q y
  bel : Below w.heap.size w wx
  far : w.heap.size + 1 < q
  row : RowP (pm (fun k => w.heap.size + 1 < k ∧ k ≠ q) wx) y.A1 y.c1 y.cs
theorem low_pm1 {B : Nat} {Q : Nat → Prop} {w w' : World} (hs : w.heap.size ≤ w'.heap.size) (h : ∀ k, B ≤ k → k < w.heap.size → Q k ∧ w'.heap[k]? = w.heap[k]?) : Sub (lowm B w) (pm Q w') := low_pm hs h

set_option maxHeartbeats 16000000 in
theorem ecopy_any (x : EntC) (w : World) (h : ShowsE w x) (hl : x.cs.length ≤ 110) (hr : x.rs.length ≤ 110) (hf : FewS x.cs) :
    Calls Tryz.prog 10 #[entV x] w (ECopySaid x w) := by
  have HCP := Lib.hid (fun w' (hb : Below w.heap.size w w') => copyPuts_any x.A1 x.c1 x.cs w' (h.puts.kept hb (Nat.le_refl _)) hl hf)
  unfold CopyPSaid at HCP
  have hlr := hr
  have HTK := Lib.hid (fun w' (hb : Below w.heap.size w w') => h.takes.kept hb (Nat.le_refl _))
  have hB1 := below_boxV w (Obj.cells #[.int .u8 x.k, .string x.name, .int .u64 x.n, .int .u32 x.xf, .string x.xg, .string x.xh, .slice x.A1 x.cs.length x.c1, .slice x.A2 x.rs.length x.c2] 29)
  have hX1 := BoxE.new (x := x) w
  obtain ⟨W1, hW1⟩ : ∃ W1, W1 = w.alloc (Obj.cells #[.int .u8 x.k, .string x.name, .int .u64 x.n, .int .u32 x.xf, .string x.xg, .string x.xh, .slice x.A1 x.cs.length x.c1, .slice x.A2 x.rs.length x.c2] 29) := ⟨_, rfl⟩
  have hz1 : W1.heap.size = w.heap.size + 1 := by rw [hW1]; simp
  rw [← hW1] at hB1 hX1
  have hB2 := below_boxV W1 zEnt
  obtain ⟨W2, hW2⟩ : ∃ W2, W2 = W1.alloc zEnt := ⟨_, rfl⟩
  have hz2 : W2.heap.size = w.heap.size + 1 + 1 := by rw [hW2]; simp [hz1]
  have hR2 : W2.heap[w.heap.size + 1]? = some zEnt := by rw [hW2, ← hz1]; exact heap_alloc_new _ _
  rw [← hW2] at hB2
  have hX2 := hX1.kept hB2 (Nat.le_refl _)
  have hb2 := hB1.trans (hB2.mono hB1.size)
  have HH := Lib.hid (And.intro hX2 (And.intro hR2 (And.intro hb2 hz2)))
  have hFin : ∀ ds : List PutC, esOf ds = esOf x.cs → Few ds := fun ds he j hj => by
    have h1 : j < (esOf ds).length := by rw [esOf_len]; exact hj
    have h2 : j < x.cs.length := by rw [he, esOf_len] at h1; exact h1
    have h3 : ds[j].e = x.cs[j].e := by rw [← esOf_get ds j hj, ← esOf_get x.cs j h2]; simp only [he]
    rw [h3]
    exact Nat.le_trans (hf j h2) (by decide)
  have HFIN := Lib.hid hFin
  have HXS := Lib.hid (And.intro h.k (And.intro h.name (And.intro h.n (And.intro h.xf (And.intro h.xg (And.intro h.xh h.takes.each))))))
  unfold ECopySaid
  clear hB1 hX1 hB2 hR2 hb2 hFin h hl hf hr
  obtain ⟨k, name, n, xf, xg, xh, A1, c1, cs, A2, c2, rs⟩ := x
  unfold entV
  simp only [] at *
  have hbx := hX2.cells
  simp only [] at hbx
  obtain ⟨⟨e0, e1, e2⟩, ⟨e3, e4, e5⟩, e6, e7⟩ := hbx
  clear hX2
  go_enter Tryz.func10, Tryz.ntmps10
  go_upto_region 1 with fail
  rw [← hW1, ← hW2]
  have HKEEP := Lib.hid (show ∀ w', Below W2.heap.size W2 w' → w'.cell? ⟨w.heap.size, 0, none⟩ = some (.int .u8 k) ∧ w'.cell? ⟨w.heap.size, 1, none⟩ = some (.string name) ∧ w'.cell? ⟨w.heap.size, 2, none⟩ = some (.int .u64 n) ∧ w'.cell? ⟨w.heap.size, 3, none⟩ = some (.int .u32 xf) ∧ w'.cell? ⟨w.heap.size, 4, none⟩ = some (.string xg) ∧ w'.cell? ⟨w.heap.size, 5, none⟩ = some (.string xh) ∧ w'.cell? ⟨w.heap.size, 6, none⟩ = some (.slice A1 cs.length c1) from fun w' hb' => by
    have hbx := (HH.out.1.kept hb' (Nat.le_refl _)).cells
    simp only [] at hbx
    obtain ⟨⟨e0, e1, e2⟩, ⟨e3, e4, e5⟩, e6, e7⟩ := hbx
    exact ⟨e0, e1, e2, e3, e4, e5, e6⟩)
  have hSW := HKEEP.out _ (below_drew1 (Below.refl _ _))
  clear e0 e1 e2 e3 e4 e5 e6 e7 hW1 hW2 hz1 hz2
  go_cut [3] from 4 to 15 (fun pv wx => ∃ (q : Nat) (A : Option Addr) (c : Nat) (ds : List PutC), pv = .pointer (some ⟨q, 0, none⟩) ∧ esOf ds = esOf cs ∧ BoxE wx w.heap.size ⟨k, name, n, xf, xg, xh, A1, c1, cs, A2, c2, rs⟩ ∧ wx.heap[w.heap.size + 1]? = some zEnt ∧ BoxE wx q ⟨k, name, n, xf, xg, xh, A, c, ds, none, 0, []⟩ ∧ Below w.heap.size w wx ∧ w.heap.size + 1 < q ∧ RowP (pm (fun k => w.heap.size + 1 < k ∧ k ≠ q) wx) A c ds)
  case first =>
    rename_i J0 K0 hJ0 hK0
    refine wp_region_held_drew (S := fun w' => w'.cell? ⟨w.heap.size, 0, none⟩ = some (.int .u8 k) ∧ w'.cell? ⟨w.heap.size, 1, none⟩ = some (.string name) ∧ w'.cell? ⟨w.heap.size, 2, none⟩ = some (.int .u64 n) ∧ w'.cell? ⟨w.heap.size, 3, none⟩ = some (.int .u32 xf) ∧ w'.cell? ⟨w.heap.size, 4, none⟩ = some (.string xg) ∧ w'.cell? ⟨w.heap.size, 5, none⟩ = some (.string xh) ∧ w'.cell? ⟨w.heap.size, 6, none⟩ = some (.slice A1 cs.length c1)) (by kernel_rfl) hSW (fun hHeld => ?_)
    clear hSW
    refine wpAnyH_take (i := 0) (oi := { dst := some 4, op := Op.fieldAddr 29 (Operand.tmp 1) 0, type := 0, pos := "ref.go:213", after := #[], guard := none }) (v := ?_) rfl (by kernel_rfl) (by kernel_rfl) (by kernel_rfl) (fun _ _ _ h => h) (Or.inl ⟨by rfl, ?_⟩) (by assumption) ?_
    rotate_left
    · intro w9 hSw
      obtain ⟨s0, s1, s2, s3, s4, s5, s6⟩ := hSw
      go_simp
      try with_reducible rfl
    try simp only [Act.put, List.setIfInBounds_toArray, List.set_cons_zero, List.set_cons_succ]
    refine wpAnyH_take (i := 1) (oi := { dst := some 5, op := Op.load 5 (Operand.tmp 4), type := 5, pos := "ref.go:213", after := #[{ on := 0, ground := Ground.data }], guard := none }) (v := ?_) rfl (by kernel_rfl) (by kernel_rfl) (by kernel_rfl) (fun _ _ _ h => h) (Or.inl ⟨by rfl, ?_⟩) (by assumption) ?_
    rotate_left
    · intro w9 hSw
      obtain ⟨s0, s1, s2, s3, s4, s5, s6⟩ := hSw
      go_simp
      try with_reducible rfl
    try simp only [Act.put, List.setIfInBounds_toArray, List.set_cons_zero, List.set_cons_succ]
    refine wpAnyH_take (i := 2) (oi := { dst := some 6, op := Op.fieldAddr 29 (Operand.tmp 1) 1, type := 0, pos := "ref.go:213", after := #[], guard := none }) (v := ?_) rfl (by kernel_rfl) (by kernel_rfl) (by kernel_rfl) (fun _ _ _ h => h) (Or.inl ⟨by rfl, ?_⟩) (by assumption) ?_
    rotate_left
    · intro w9 hSw
      obtain ⟨s0, s1, s2, s3, s4, s5, s6⟩ := hSw
      go_simp
      try with_reducible rfl
    try simp only [Act.put, List.setIfInBounds_toArray, List.set_cons_zero, List.set_cons_succ]
    refine wpAnyH_take (i := 3) (oi := { dst := some 7, op := Op.load 9 (Operand.tmp 6), type := 9, pos := "ref.go:213", after := #[{ on := 2, ground := Ground.data }], guard := none }) (v := ?_) rfl (by kernel_rfl) (by kernel_rfl) (by kernel_rfl) (fun _ _ _ h => h) (Or.inl ⟨by rfl, ?_⟩) (by assumption) ?_
    rotate_left
    · intro w9 hSw
      obtain ⟨s0, s1, s2, s3, s4, s5, s6⟩ := hSw
      go_simp
      try with_reducible rfl
    try simp only [Act.put, List.setIfInBounds_toArray, List.set_cons_zero, List.set_cons_succ]
    refine wpAnyH_take (i := 4) (oi := { dst := some 8, op := Op.fieldAddr 29 (Operand.tmp 1) 2, type := 0, pos := "ref.go:213", after := #[], guard := none }) (v := ?_) rfl (by kernel_rfl) (by kernel_rfl) (by kernel_rfl) (fun _ _ _ h => h) (Or.inl ⟨by rfl, ?_⟩) (by assumption) ?_
    rotate_left
    · intro w9 hSw
      obtain ⟨s0, s1, s2, s3, s4, s5, s6⟩ := hSw
      go_simp
      try with_reducible rfl
    try simp only [Act.put, List.setIfInBounds_toArray, List.set_cons_zero, List.set_cons_succ]
    refine wpAnyH_take (i := 5) (oi := { dst := some 9, op := Op.load 22 (Operand.tmp 8), type := 22, pos := "ref.go:213", after := #[{ on := 4, ground := Ground.data }], guard := none }) (v := ?_) rfl (by kernel_rfl) (by kernel_rfl) (by kernel_rfl) (fun _ _ _ h => h) (Or.inl ⟨by rfl, ?_⟩) (by assumption) ?_
    rotate_left
    · intro w9 hSw
      obtain ⟨s0, s1, s2, s3, s4, s5, s6⟩ := hSw
      go_simp
      try with_reducible rfl
    try simp only [Act.put, List.setIfInBounds_toArray, List.set_cons_zero, List.set_cons_succ]
    refine wpAnyH_take (i := 6) (oi := { dst := some 10, op := Op.fieldAddr 29 (Operand.tmp 1) 3, type := 0, pos := "ref.go:213", after := #[], guard := none }) (v := ?_) rfl (by kernel_rfl) (by kernel_rfl) (by kernel_rfl) (fun _ _ _ h => h) (Or.inl ⟨by rfl, ?_⟩) (by assumption) ?_
    rotate_left
    · intro w9 hSw
      obtain ⟨s0, s1, s2, s3, s4, s5, s6⟩ := hSw
      go_simp
      try with_reducible rfl
    try simp only [Act.put, List.setIfInBounds_toArray, List.set_cons_zero, List.set_cons_succ]
    refine wpAnyH_take (i := 7) (oi := { dst := some 11, op := Op.load 25 (Operand.tmp 10), type := 25, pos := "ref.go:213", after := #[{ on := 6, ground := Ground.data }], guard := none }) (v := ?_) rfl (by kernel_rfl) (by kernel_rfl) (by kernel_rfl) (fun _ _ _ h => h) (Or.inl ⟨by rfl, ?_⟩) (by assumption) ?_
    rotate_left
    · intro w9 hSw
      obtain ⟨s0, s1, s2, s3, s4, s5, s6⟩ := hSw
      go_simp
      try with_reducible rfl
    try simp only [Act.put, List.setIfInBounds_toArray, List.set_cons_zero, List.set_cons_succ]
    refine wpAnyH_take (i := 8) (oi := { dst := some 12, op := Op.fieldAddr 29 (Operand.tmp 1) 4, type := 0, pos := "ref.go:213", after := #[], guard := none }) (v := ?_) rfl (by kernel_rfl) (by kernel_rfl) (by kernel_rfl) (fun _ _ _ h => h) (Or.inl ⟨by rfl, ?_⟩) (by assumption) ?_
    rotate_left
    · intro w9 hSw
      obtain ⟨s0, s1, s2, s3, s4, s5, s6⟩ := hSw
      go_simp
      try with_reducible rfl
    try simp only [Act.put, List.setIfInBounds_toArray, List.set_cons_zero, List.set_cons_succ]
    refine wpAnyH_take (i := 9) (oi := { dst := some 13, op := Op.load 26 (Operand.tmp 12), type := 26, pos := "ref.go:213", after := #[{ on := 8, ground := Ground.data }], guard := none }) (v := ?_) rfl (by kernel_rfl) (by kernel_rfl) (by kernel_rfl) (fun _ _ _ h => h) (Or.inl ⟨by rfl, ?_⟩) (by assumption) ?_
    rotate_left
    · intro w9 hSw
      obtain ⟨s0, s1, s2, s3, s4, s5, s6⟩ := hSw
      go_simp
      try with_reducible rfl
    try simp only [Act.put, List.setIfInBounds_toArray, List.set_cons_zero, List.set_cons_succ]
    refine wpAnyH_ready (rs := [10, 12]) (by kernel_rfl) (by simp) ?_
    refine AllReadyH.cons (o := { dst := some 14, op := Op.call { callee := Callee.value (Operand.func 20), args := #[Operand.tmp 13], argTypes := #[26] }, type := 26, pos := "ref.go:213", after := #[{ on := 9, ground := Ground.data }], guard := none }) rfl (fun K hK => ?_) (AllReadyH.cons (o := { dst := some 3, op := Op.alloc 29, type := 0, pos := "ref.go:213", after := #[], guard := none }) rfl (fun K hK => ?_) AllReadyH.nil)
    · go_simp
      have hbc : Below W2.heap.size W2 W2.drew := below_drew1 (Below.refl _ _)
      refine (HCP.out _ (HH.out.2.2.1.trans (hbc.mono (by have := HH.out.2.2.1.size; omega)))).mono ?_
      rintro e5 w5 ⟨A5, n5, ds, rfl, hds, hrow5, hb5⟩
      have hb25 : Below W2.heap.size W2 w5 := hbc.trans (hb5.mono hbc.size)
      have hS5 := HKEEP.out _ hb25
      refine hK.out _ _ hS5 (fun _ => ?_)
      clear hK K
      try simp only [Act.put, List.setIfInBounds_toArray, List.set_cons_zero, List.set_cons_succ]
      refine wpAnyH_take (i := 11) (oi := { dst := some 15, op := Op.build 29 #[(0, Operand.tmp 5), (1, Operand.tmp 7), (2, Operand.tmp 9), (3, Operand.tmp 11), (4, Operand.tmp 14)], type := 29, pos := "ref.go:213", after := #[{ on := 1, ground := Ground.data }, { on := 3, ground := Ground.data }, { on := 5, ground := Ground.data }, { on := 7, ground := Ground.data }, { on := 10, ground := Ground.data }], guard := none }) (v := ?_) rfl (by kernel_rfl) (by kernel_rfl) (by kernel_rfl) (fun _ _ _ h => h) (Or.inl ⟨by rfl, ?_⟩) (by assumption) ?_
      rotate_left
      · intro w9 hSw
        obtain ⟨s0, s1, s2, s3, s4, s5, s6⟩ := hSw
        go_simp
        try with_reducible rfl
      try simp only [Act.put, List.setIfInBounds_toArray, List.set_cons_zero, List.set_cons_succ]
      refine wpAnyH_ready (rs := [12]) (by kernel_rfl) (by simp) ?_
      refine AllReadyH.cons (o := { dst := some 3, op := Op.alloc 29, type := 0, pos := "ref.go:213", after := #[], guard := none }) rfl (fun K hK => ?_) AllReadyH.nil
      · go_simp
        have hS6 := HKEEP.out (w5.alloc zEnt) (hb25.alloc hb25.size _)
        refine hK.out _ _ hS6 (fun _ => ?_)
        clear hK K
        try simp only [Act.put, List.setIfInBounds_toArray, List.set_cons_zero, List.set_cons_succ]
        refine wpAnyH_ready (rs := [13]) (by kernel_rfl) (by simp) ?_
        refine AllReadyH.cons (o := { dst := none, op := Op.store 29 (Operand.tmp 3) (Operand.tmp 15), type := 0, pos := "ref.go:213", after := #[{ on := 12, ground := Ground.data }, { on := 11, ground := Ground.data }, { on := 10, ground := Ground.chain }, { on := 0, ground := Ground.phase }, { on := 1, ground := Ground.phase }, { on := 2, ground := Ground.phase }, { on := 3, ground := Ground.phase }, { on := 4, ground := Ground.phase }, { on := 5, ground := Ground.phase }, { on := 6, ground := Ground.phase }, { on := 7, ground := Ground.phase }, { on := 8, ground := Ground.phase }, { on := 9, ground := Ground.phase }, { on := 10, ground := Ground.phase }, { on := 11, ground := Ground.phase }, { on := 12, ground := Ground.phase }], guard := none }) rfl (fun K hK => ?_) AllReadyH.nil
        · obtain ⟨W6, hW6⟩ : ∃ W6, W6 = w5.alloc zEnt := ⟨_, rfl⟩
          rw [← hW6]
          have hq7 : W6.heap[w5.heap.size]? = some zEnt := by rw [hW6]; exact heap_alloc_new _ _
          have hb7 : Below W2.heap.size W2 W6 := by rw [hW6]; exact hb25.alloc hb25.size _
          have hqw : W2.heap.size ≤ w5.heap.size := hb25.size
          have hrow7 : RowP (pm (fun k => w.heap.size + 1 < k ∧ k ≠ w5.heap.size) W6) A5 n5 ds := by rw [hW6]; exact hrow5.sub (low_pm (by simp) fun j hj hjw => ⟨⟨by have := HH.out.2.2.2; have : W2.heap.size ≤ j := hj; omega, by omega⟩, (below_boxV w5 zEnt).block j hjw⟩)
          clear hW6 hS6 hS5
          obtain ⟨⟨⟨z0, z1, z2, z3⟩, ⟨z4, z5, z6, z7⟩⟩, ⟨⟨f0, f1, f2, f3⟩, ⟨f4, f5, f6, f7⟩⟩⟩ := ent_zero hq7
          have h8 := set8_row (.int .u8 k) (.string name) (.int .u64 n) (.int .u32 xf) (.string xg) (.string xh) (.slice A5 ds.length n5) (.slice none 0 0) hq7
          have h8b := set8_below hb7 hqw (.int .u8 k) (.string name) (.int .u64 n) (.int .u32 xf) (.string xg) (.string xh) (.slice A5 ds.length n5) (.slice none 0 0)
          have h8r : RowP (pm (fun k => w.heap.size + 1 < k ∧ k ≠ w5.heap.size) (set8 W6 w5.heap.size (.int .u8 k) (.string name) (.int .u64 n) (.int .u32 xf) (.string xg) (.string xh) (.slice A5 ds.length n5) (.slice none 0 0))) A5 n5 ds := hrow7.sub (pm_pm (by rw [set8_eq]; exact (setN_below (Nat.le_refl _) _ 0 _ _ (Below.refl _ _)).size) fun j hj hjw => ⟨hj, by rw [set8_eq]; exact setN_other hj.2 _ 0 _⟩)
          have hS7 := HKEEP.out _ h8b
          unfold set8 at h8 h8b h8r hS7
          have HFN := Lib.hid (And.intro h8 (And.intro h8b (And.intro h8r hds)))
          clear h8 h8b h8r hrow7 hb7
          go_simp
          refine hK.out _ _ hS7 (fun _ => ?_)
          clear hK K
          try simp only [Act.put, List.setIfInBounds_toArray, List.set_cons_zero, List.set_cons_succ]
          refine wpAnyH_done (by kernel_rfl) ?_ _
          refine hK0 _ _ (Met.intro (hJ0 _ _ ?_))
          (repeat apply Exists.intro)
          refine ⟨?_, rfl⟩
          exact ⟨w5.heap.size, A5, n5, ds, rfl, HFN.out.2.2.2, HH.out.1.kept HFN.out.2.1 (Nat.le_refl _), (HFN.out.2.1.block _ (by have := HH.out.2.2.2; omega)).trans HH.out.2.1, HFN.out.1, HH.out.2.2.1.trans (HFN.out.2.1.mono (by have := HH.out.2.2.1.size; omega)), by have := HH.out.2.2.2; have := hqw; omega, HFN.out.2.2.1⟩
    · go_simp
      have hS6 := HKEEP.out (W2.drew.alloc zEnt) ((below_drew1 (Below.refl _ _)).alloc (by show W2.heap.size ≤ W2.heap.size; omega) _)
      refine hK.out _ _ hS6 (fun _ => ?_)
      clear hK K
      try simp only [Act.put, List.setIfInBounds_toArray, List.set_cons_zero, List.set_cons_succ]
      refine wpAnyH_ready (rs := [10]) (by kernel_rfl) (by simp) ?_
      refine AllReadyH.cons (o := { dst := some 14, op := Op.call { callee := Callee.value (Operand.func 20), args := #[Operand.tmp 13], argTypes := #[26] }, type := 26, pos := "ref.go:213", after := #[{ on := 9, ground := Ground.data }], guard := none }) rfl (fun K hK => ?_) AllReadyH.nil
      · go_simp
        have hbc : Below W2.heap.size W2 (W2.drew.alloc zEnt) := (below_drew1 (Below.refl _ _)).alloc (by show W2.heap.size ≤ W2.heap.size; omega) _
        refine (HCP.out _ (HH.out.2.2.1.trans (hbc.mono (by have := HH.out.2.2.1.size; omega)))).mono ?_
        rintro e5 w5 ⟨A5, n5, ds, rfl, hds, hrow5, hb5⟩
        have hb25 : Below W2.heap.size W2 w5 := hbc.trans (hb5.mono hbc.size)
        have hS5 := HKEEP.out _ hb25
        refine hK.out _ _ hS5 (fun _ => ?_)
        clear hK K
        try simp only [Act.put, List.setIfInBounds_toArray, List.set_cons_zero, List.set_cons_succ]
        refine wpAnyH_take (i := 11) (oi := { dst := some 15, op := Op.build 29 #[(0, Operand.tmp 5), (1, Operand.tmp 7), (2, Operand.tmp 9), (3, Operand.tmp 11), (4, Operand.tmp 14)], type := 29, pos := "ref.go:213", after := #[{ on := 1, ground := Ground.data }, { on := 3, ground := Ground.data }, { on := 5, ground := Ground.data }, { on := 7, ground := Ground.data }, { on := 10, ground := Ground.data }], guard := none }) (v := ?_) rfl (by kernel_rfl) (by kernel_rfl) (by kernel_rfl) (fun _ _ _ h => h) (Or.inl ⟨by rfl, ?_⟩) (by assumption) ?_
        rotate_left
        · intro w9 hSw
          obtain ⟨s0, s1, s2, s3, s4, s5, s6⟩ := hSw
          go_simp
          try with_reducible rfl
        try simp only [Act.put, List.setIfInBounds_toArray, List.set_cons_zero, List.set_cons_succ]
        refine wpAnyH_ready (rs := [13]) (by kernel_rfl) (by simp) ?_
        refine AllReadyH.cons (o := { dst := none, op := Op.store 29 (Operand.tmp 3) (Operand.tmp 15), type := 0, pos := "ref.go:213", after := #[{ on := 12, ground := Ground.data }, { on := 11, ground := Ground.data }, { on := 10, ground := Ground.chain }, { on := 0, ground := Ground.phase }, { on := 1, ground := Ground.phase }, { on := 2, ground := Ground.phase }, { on := 3, ground := Ground.phase }, { on := 4, ground := Ground.phase }, { on := 5, ground := Ground.phase }, { on := 6, ground := Ground.phase }, { on := 7, ground := Ground.phase }, { on := 8, ground := Ground.phase }, { on := 9, ground := Ground.phase }, { on := 10, ground := Ground.phase }, { on := 11, ground := Ground.phase }, { on := 12, ground := Ground.phase }], guard := none }) rfl (fun K hK => ?_) AllReadyH.nil
        · have hq7 : w5.heap[W2.heap.size]? = some zEnt := (hb5.block _ (by simp)).trans (heap_alloc_new W2.drew zEnt)
          have hb7 : Below W2.heap.size W2 w5 := hb25
          have hqw : W2.heap.size ≤ W2.heap.size := Nat.le_refl _
          have hrow7 : RowP (pm (fun k => w.heap.size + 1 < k ∧ k ≠ W2.heap.size) w5) A5 n5 ds := hrow5.sub (low_pm (Nat.le_refl _) fun j hj hjw => ⟨⟨by have := HH.out.2.2.2; rw [World.size_alloc] at hj; have : W2.heap.size + 1 ≤ j := hj; omega, by rw [World.size_alloc] at hj; have : W2.heap.size + 1 ≤ j := hj; omega⟩, rfl⟩)
          obtain ⟨⟨⟨z0, z1, z2, z3⟩, ⟨z4, z5, z6, z7⟩⟩, ⟨⟨f0, f1, f2, f3⟩, ⟨f4, f5, f6, f7⟩⟩⟩ := ent_zero hq7
          have h8 := set8_row (.int .u8 k) (.string name) (.int .u64 n) (.int .u32 xf) (.string xg) (.string xh) (.slice A5 ds.length n5) (.slice none 0 0) hq7
          have h8b := set8_below hb7 hqw (.int .u8 k) (.string name) (.int .u64 n) (.int .u32 xf) (.string xg) (.string xh) (.slice A5 ds.length n5) (.slice none 0 0)
          have h8r : RowP (pm (fun k => w.heap.size + 1 < k ∧ k ≠ W2.heap.size) (set8 w5 W2.heap.size (.int .u8 k) (.string name) (.int .u64 n) (.int .u32 xf) (.string xg) (.string xh) (.slice A5 ds.length n5) (.slice none 0 0))) A5 n5 ds := hrow7.sub (pm_pm (by rw [set8_eq]; exact (setN_below (Nat.le_refl _) _ 0 _ _ (Below.refl _ _)).size) fun j hj hjw => ⟨hj, by rw [set8_eq]; exact setN_other hj.2 _ 0 _⟩)
          have hS7 := HKEEP.out _ h8b
          unfold set8 at h8 h8b h8r hS7
          have HFN := Lib.hid (And.intro h8 (And.intro h8b (And.intro h8r hds)))
          clear h8 h8b h8r hrow7 hb7
          go_simp
          refine hK.out _ _ hS7 (fun _ => ?_)
          clear hK K
          try simp only [Act.put, List.setIfInBounds_toArray, List.set_cons_zero, List.set_cons_succ]
          refine wpAnyH_done (by kernel_rfl) ?_ _
          refine hK0 _ _ (Met.intro (hJ0 _ _ ?_))
          (repeat apply Exists.intro)
          refine ⟨?_, rfl⟩
          exact ⟨W2.heap.size, A5, n5, ds, rfl, HFN.out.2.2.2, HH.out.1.kept HFN.out.2.1 (Nat.le_refl _), (HFN.out.2.1.block _ (by have := HH.out.2.2.2; omega)).trans HH.out.2.1, HFN.out.1, HH.out.2.2.1.trans (HFN.out.2.1.mono (by have := HH.out.2.2.1.size; omega)), by have := HH.out.2.2.2; omega, HFN.out.2.2.1⟩
  case rest =>
    obtain ⟨q, A, c, ds, rfl, hds, hXb, hRz, hXq, hbl, hfar, hrow⟩ := hcut
    have hqs := hXq.lt
    have hbls := hbl.size
    have hws : w.heap.size + 1 < wc.heap.size := by omega
    have hTK := HTK.out _ hbl
    obtain ⟨d2, hd2⟩ := hTK.row
    have hbx := hXb.cells
    have hbq := hXq.cells
    have HDS := Lib.hid (And.intro hds (And.intro hRz (And.intro hXq (And.intro hbl (And.intro hrow (HFIN.out ds hds))))))
    simp only [] at hbx hbq
    obtain ⟨⟨e0, e1, e2⟩, ⟨e3, e4, e5⟩, e6, e7⟩ := hbx
    obtain ⟨⟨b0, b1, b2⟩, ⟨b3, b4, b5⟩, b6, b7⟩ := hbq
    clear e0 e1 e2 e3 e4 e5 e6 b0 b1 b2 b3 b4 b5 b6 hds hRz hbl hrow hTK hXb
    go_upto_region 3 with (at_builtin
                           refine wpList_appendG refC _ rfl (.tmp 17) (.tmp 19) 27 rfl wc.heap.size 48 _ 24 Tryz.underlying27 infoRef rfl (.slice none 0 0) [] rfl (OwnG.nil_ _ _ _ _) d2 _ rs rfl hd2 (by simp; omega) (by simp; omega) (Nat.le_refl _) ?_
                           intro v6 w6 ho6 hg6
                           obtain ⟨A6, c6, hv6, hc6⟩ := ho6.form
                           subst hv6
                           simp only [List.nil_append] at ho6
                           simp only [List.nil_append]
                           have hXq6 := (hg6.block q hqs (by simp [Value.ownBlock])).trans hXq
                           have hb6 := BoxE.cells (x := ⟨k, name, n, xf, xg, xh, A, c, ds, none, 0, []⟩) hXq6
                           simp only [] at hb6
                           obtain ⟨⟨r0, r1, r2⟩, ⟨r3, r4, r5⟩, r6, r7⟩ := hb6
                           have fr7 := BoxE.fr (x := ⟨k, name, n, xf, xg, xh, A, c, ds, none, 0, []⟩) hXq6 7
                           clear r0 r1 r2 r3 r4 r5 r6 b7 e7)
    obtain ⟨W7, hW7⟩ : ∃ W7, W7 = w6.setCell ⟨q, 7, none⟩ (.slice A6 rs.length c6) := ⟨_, rfl⟩
    rw [← hW7]
    have hX7 : BoxE W7 q ⟨k, name, n, xf, xg, xh, A, c, ds, A6, c6, rs⟩ := by
      have h9 := heap_setCell_same w6 q 7 _ 29 (.slice A6 rs.length c6) hXq6
      rw [← hW7] at h9
      exact h9
    have hR7 : W7.heap[w.heap.size + 1]? = some zEnt := by
      rw [hW7]
      exact (Below.heap_setCell _ _ _ _ (by show w.heap.size + 1 ≠ q; omega)).trans ((hg6.block (w.heap.size + 1) hws (by simp [Value.ownBlock])).trans HDS.out.2.1)
    have hB7 : Below w.heap.size w W7 := by
      rw [hW7]
      exact below_set (HDS.out.2.2.2.1.grown hg6 (by omega) (fun i hi => by simp [Value.ownBlock] at hi)) (by omega) _
    have hb7 := hX7.cells
    simp only [] at hb7
    obtain ⟨⟨r0, r1, r2⟩, ⟨r3, r4, r5⟩, r6, r7⟩ := hb7
    obtain ⟨⟨⟨z0, z1, z2, z3⟩, ⟨z4, z5, z6, z7⟩⟩, ⟨⟨f0, f1, f2, f3⟩, ⟨f4, f5, f6, f7⟩⟩⟩ := ent_zero hR7
    have h8 := set8_row (.int .u8 k) (.string name) (.int .u64 n) (.int .u32 xf) (.string xg) (.string xh) (.slice A ds.length c) (.slice A6 rs.length c6) hR7
    have h8b := set8_below hB7 (Nat.le_succ w.heap.size) (.int .u8 k) (.string name) (.int .u64 n) (.int .u32 xf) (.string xg) (.string xh) (.slice A ds.length c) (.slice A6 rs.length c6)
    have h87 : ∀ j, j ≠ w.heap.size + 1 → j ≠ q → (set8 W7 (w.heap.size + 1) (.int .u8 k) (.string name) (.int .u64 n) (.int .u32 xf) (.string xg) (.string xh) (.slice A ds.length c) (.slice A6 rs.length c6)).heap[j]? = w6.heap[j]? := fun j h1 h2 => by
      rw [set8_eq, setN_other h1 _ 0 _, hW7]
      exact Below.heap_setCell _ _ _ _ (by show j ≠ q; exact h2)
    have h8s : w6.heap.size ≤ (set8 W7 (w.heap.size + 1) (.int .u8 k) (.string name) (.int .u64 n) (.int .u32 xf) (.string xg) (.string xh) (.slice A ds.length c) (.slice A6 rs.length c6)).heap.size := by
      have := (setN_below (Nat.le_refl (w.heap.size + 1)) [.int .u8 k, .string name, .int .u64 n, .int .u32 xf, .string xg, .string xh, .slice A ds.length c, .slice A6 rs.length c6] 0 W7 W7 (Below.refl _ _)).size
      rw [set8_eq]
      have e7 : W7.heap.size = w6.heap.size := by rw [hW7]; simp
      omega
    have h8p := (HDS.out.2.2.2.2.1.sub (pm_pm (Nat.le_trans hg6.size h8s) fun j hj hjw => ⟨hj, (h87 j (by omega) hj.2).trans (hg6.block j (by first | exact hjw | simpa using hjw) (by simp [Value.ownBlock]))⟩)).sub (pm_low (B := w.heap.size) (fun j hj => by omega))
    have h8t : RowR (lowm w.heap.size (set8 W7 (w.heap.size + 1) (.int .u8 k) (.string name) (.int .u64 n) (.int .u32 xf) (.string xg) (.string xh) (.slice A ds.length c) (.slice A6 rs.length c6))) A6 c6 rs := by
      obtain ⟨g, hg1, hg2⟩ := ((ho6.keep fun g hg => h87 g (by have := (ho6.block g hg).1; omega) (by have := (ho6.block g hg).1; omega)).low (by omega : w.heap.size ≤ wc.heap.size)).shows
      exact ⟨⟨g, hg2⟩, HXS.out.2.2.2.2.2.2, by omega⟩
    unfold set8 at h8 h8b h8p h8t
    have H8 := Lib.hid (And.intro h8 (And.intro h8b (And.intro h8p h8t)))
    clear h8 h8b h87 h8s h8p h8t hB7 hR7 hX7 hW7 hXq6 hXq ho6 hg6 hd2 fr7
    go_wp2_with fail
    exact bodyPost_ret (results_cell_row rfl _ _ (w.heap.size + 1) 29 _ (0, 0) _ rfl H8.out.1 Tryz.underlying29 rfl (by kernel_rfl)) rfl ⟨⟨k, name, n, xf, xg, xh, A, c, ds, A6, c6, rs⟩, rfl, congrArg (fun l => (⟨k, name, n, xf, xg, xh, l, rs⟩ : EntE)) HDS.out.1, ⟨HXS.out.1, HXS.out.2.1, HXS.out.2.2.1, HXS.out.2.2.2.1, HXS.out.2.2.2.2.1, HXS.out.2.2.2.2.2.1, H8.out.2.2.1, H8.out.2.2.2⟩, HDS.out.2.2.2.2.2, H8.out.2.1⟩

end Go.Proofs.YtfplgaeeiglhdaaGreat
