/-
  The law's own 'does', further: Append, Sync, Cut, Rename, Remove.
  Conditions: none but sizes.
-/
import Derived.Test.YtngjmeohleoglaaDqM
import Derived.Deep.RegionHeld3
namespace Go.Proofs.Ytngjmeohleoglaa
open Go.RowKit Go.Shelf
set_option linter.unusedVariables false
set_option linter.unusedSimpArgs false
set_option maxRecDepth 100000

section
variable {w0 w w' : World} {base nb qb n m n1 m1 : Nat} {X : Nat → Prop} {st sq : DD}
theorem does_end {X' : Nat → Prop} {st' sq' : DD} {w2 w3 w4 : World} {a b : Nat} (hX : ∀ k, X k → X' k) (hB : Both w0 base nb qb X' n m st' sq' w4) (h1 : ∀ k, X' k → w4.heap[k]? = w3.heap[k]?) (h2 : ∀ k, X' k → w3.heap[k]? = w2.heap[k]?) (h3 : ∀ k, X k → w2.heap[k]? = w.heap[k]?) (hab : st = sq → a = b) :
    DoesSaid w0 base nb qb X n m st sq st' sq' w (.returned (.bool ((a : Int) == (b : Int)))) w4 :=
  ⟨_, rfl, fun e => by rw [hab e]; simp, hB.below (Below.refl _ _) (fun k hk => .inl (hX k hk)), fun k hk => (h1 k (hX k hk)).trans ((h2 k (hX k hk)).trans (h3 k hk))⟩
set_option maxHeartbeats 1000000 in
theorem does_append (h : Both w0 base nb qb X n m st sq w) (hm : m ≤ 1000000) (hx : ∀ k, X k → k < w.heap.size) (a : Nat) (ha : a < 256) (h7 : a % 9 = 0) (q x : List UInt8) (hq : q.length ≤ 140737488355328) (hxl : x.length ≤ 140737488355328) (k : Int) (Ak : Option Addr) (nk ck : Nat) :
    Calls Try.prog 11 #[.pointer (some ⟨nb, 0, none⟩), .pointer (some ⟨qb, 0, none⟩), .agg #[.int .u8 a, .string (str8 q), .string (str8 x), .int .i64 k, .slice Ak nk ck]] w (DoesSaid w0 base nb qb X (n + 1) (m + 1) st sq (appendD st q x).1 (appendD sq q x).1 w) := by
  obtain ⟨W, hW⟩ : ∃ W, W = w.alloc (.cells #[.int .u8 a, .string (str8 q), .string (str8 x), .int .i64 k, .slice Ak nk ck] 30) := ⟨_, rfl⟩
  have hbW : Below w.heap.size w W := by rw [hW]; exact below_boxK _ _
  have hsW : W.heap.size = w.heap.size + 1 := by rw [hW]; simp
  have hFB : W.heap[w.heap.size]? = some (.cells #[.int .u8 a, .string (str8 q), .string (str8 x), .int .i64 k, .slice Ak nk ck] 30 (0, 0)) := by rw [hW]; exact heap_alloc_new w _
  have hBd : Both w0 base nb qb (fun j => X j ∨ j = w.heap.size) n m st sq W.drew := (h.below hbW (Y := fun j => X j ∨ j = w.heap.size) fun j hj => hj.elim .inl fun e => .inr ⟨by omega, by omega⟩).below (below_drew1 (Below.refl _ _)) fun j hj => .inl hj
  have p0 : W.cell? ⟨w.heap.size, 0, none⟩ = some (.int .u8 a) := by rw [cell_of_row _ _ _ _ _ (0, 0) hFB]; rfl
  have HC := Lib.hid (fun (w1 : World) (hk : ∀ j, (X j ∨ j = w.heap.size) → w1.heap[j]? = W.drew.heap[j]?) => show w1.cell? ⟨w.heap.size, 1, none⟩ = some (.string (str8 q)) ∧ w1.cell? ⟨w.heap.size, 2, none⟩ = some (.string (str8 x)) ∧ w1.cell? ⟨w.heap.size, 3, none⟩ = some (.int .i64 k) from by
    have e := (hk _ (.inr rfl)).trans hFB
    exact ⟨by rw [cell_of_row _ _ _ _ _ (0, 0) e]; rfl, by rw [cell_of_row _ _ _ _ _ (0, 0) e]; rfl, by rw [cell_of_row _ _ _ _ _ (0, 0) e]; rfl⟩)
  have p1 : W.drew.cell? ⟨w.heap.size, 1, none⟩ = some (.string (str8 q)) := (HC.out W.drew fun _ _ => rfl).1
  have p2 : W.drew.cell? ⟨w.heap.size, 2, none⟩ = some (.string (str8 x)) := (HC.out W.drew fun _ _ => rfl).2.1
  have p3 : W.drew.cell? ⟨w.heap.size, 3, none⟩ = some (.int .i64 k) := (HC.out W.drew fun _ _ => rfl).2.2
  have HK := Lib.hid (fun j (hj : X j) => show W.drew.heap[j]? = w.heap[j]? from hbW.block j (hx j hj))
  have HP := Lib.hid (fun (n1 m1 : Nat) (s1 s2 : DD) (w1 : World) (hb : Both w0 base nb qb (fun j => X j ∨ j = w.heap.size) n1 m1 s1 s2 w1) => append_two hb q hq x hxl)
  have HQ := Lib.hid (fun (n1 : Nat) (s1 s2 : DD) (w1 : World) (hb : Both w0 base nb qb (fun j => X j ∨ j = w.heap.size) n1 m s1 s2 w1) => qappend_two hb hm q hq x hxl)
  have HW := Lib.hid hW
  have hr : ((a : Int) % 9) = 0 := by omega
  clear h hbW hW hx h7 hsW hFB
  go_enter Try.func11, Try.ntmps11
  go_upto_region 1 with fail
  rw [← HW.out]
  go_upto_region 3 with fail
  go_region_held3 (fun w' => w'.cell? ⟨w.heap.size, 1, none⟩ = some (.string (str8 q)) ∧ w'.cell? ⟨w.heap.size, 2, none⟩ = some (.string (str8 x)) ∧ w'.cell? ⟨w.heap.size, 3, none⟩ = some (.int .i64 k)) (first
      | exact ⟨p1, p2, p3⟩
      | exact HC.out _ HK2.out
      | exact HC.out _ (fun j hj => (HK3.out j hj).trans (HK2.out j hj)))
    (first
      | (go_at_call 22
         first
           | (refine (HP.out _ _ _ _ _ hBd).mono ?_
              rintro e w2 ⟨rfl, hB2, hk2⟩
              have HK2 := Lib.hid hk2
              clear hk2 hBd)
           | (refine (HP.out _ _ _ _ _ hB2).mono ?_
              rintro e w3 ⟨rfl, hB3, hk3⟩
              have HK3 := Lib.hid hk3
              clear hk3 hB2))
      | (go_at_call 24
         first
           | (refine (HQ.out _ _ _ _ hBd).mono ?_
              rintro e w2 ⟨rfl, hB2, hk2⟩
              have HK2 := Lib.hid hk2
              clear hk2 hBd)
           | (refine (HQ.out _ _ _ _ hB2).mono ?_
              rintro e w3 ⟨rfl, hB3, hk3⟩
              have HK3 := Lib.hid hk3
              clear hk3 hB2)))
  all_goals
    go_wp2_with fail
    go_ret
    exact does_end (fun j hj => .inl hj) hB3 HK3.out HK2.out HK.out (fun e => by rw [e])
set_option maxHeartbeats 1000000 in
theorem does_sync (h : Both w0 base nb qb X n m st sq w) (hm : m ≤ 1000000) (hx : ∀ k, X k → k < w.heap.size) (a : Nat) (ha : a < 256) (h7 : a % 9 = 1) (q x : List UInt8) (hq : q.length ≤ 140737488355328) (hxl : x.length ≤ 140737488355328) (k : Int) (Ak : Option Addr) (nk ck : Nat) :
    Calls Try.prog 11 #[.pointer (some ⟨nb, 0, none⟩), .pointer (some ⟨qb, 0, none⟩), .agg #[.int .u8 a, .string (str8 q), .string (str8 x), .int .i64 k, .slice Ak nk ck]] w (DoesSaid w0 base nb qb X (n + 1) (m + 1) st sq (syncD st q).1 (syncD sq q).1 w) := by
  obtain ⟨W, hW⟩ : ∃ W, W = w.alloc (.cells #[.int .u8 a, .string (str8 q), .string (str8 x), .int .i64 k, .slice Ak nk ck] 30) := ⟨_, rfl⟩
  have hbW : Below w.heap.size w W := by rw [hW]; exact below_boxK _ _
  have hsW : W.heap.size = w.heap.size + 1 := by rw [hW]; simp
  have hFB : W.heap[w.heap.size]? = some (.cells #[.int .u8 a, .string (str8 q), .string (str8 x), .int .i64 k, .slice Ak nk ck] 30 (0, 0)) := by rw [hW]; exact heap_alloc_new w _
  have hBd : Both w0 base nb qb (fun j => X j ∨ j = w.heap.size) n m st sq W.drew := (h.below hbW (Y := fun j => X j ∨ j = w.heap.size) fun j hj => hj.elim .inl fun e => .inr ⟨by omega, by omega⟩).below (below_drew1 (Below.refl _ _)) fun j hj => .inl hj
  have p0 : W.cell? ⟨w.heap.size, 0, none⟩ = some (.int .u8 a) := by rw [cell_of_row _ _ _ _ _ (0, 0) hFB]; rfl
  have HC := Lib.hid (fun (w1 : World) (hk : ∀ j, (X j ∨ j = w.heap.size) → w1.heap[j]? = W.drew.heap[j]?) => show w1.cell? ⟨w.heap.size, 1, none⟩ = some (.string (str8 q)) ∧ w1.cell? ⟨w.heap.size, 2, none⟩ = some (.string (str8 x)) ∧ w1.cell? ⟨w.heap.size, 3, none⟩ = some (.int .i64 k) from by
    have e := (hk _ (.inr rfl)).trans hFB
    exact ⟨by rw [cell_of_row _ _ _ _ _ (0, 0) e]; rfl, by rw [cell_of_row _ _ _ _ _ (0, 0) e]; rfl, by rw [cell_of_row _ _ _ _ _ (0, 0) e]; rfl⟩)
  have p1 : W.drew.cell? ⟨w.heap.size, 1, none⟩ = some (.string (str8 q)) := (HC.out W.drew fun _ _ => rfl).1
  have p2 : W.drew.cell? ⟨w.heap.size, 2, none⟩ = some (.string (str8 x)) := (HC.out W.drew fun _ _ => rfl).2.1
  have p3 : W.drew.cell? ⟨w.heap.size, 3, none⟩ = some (.int .i64 k) := (HC.out W.drew fun _ _ => rfl).2.2
  have HK := Lib.hid (fun j (hj : X j) => show W.drew.heap[j]? = w.heap[j]? from hbW.block j (hx j hj))
  have HP := Lib.hid (fun (n1 m1 : Nat) (s1 s2 : DD) (w1 : World) (hb : Both w0 base nb qb (fun j => X j ∨ j = w.heap.size) n1 m1 s1 s2 w1) => sync_two hb q hq)
  have HQ := Lib.hid (fun (n1 : Nat) (s1 s2 : DD) (w1 : World) (hb : Both w0 base nb qb (fun j => X j ∨ j = w.heap.size) n1 m s1 s2 w1) => qsync_two hb hm q hq)
  have HW := Lib.hid hW
  have hr : ((a : Int) % 9) = 1 := by omega
  clear h hbW hW hx h7 hsW hFB
  go_enter Try.func11, Try.ntmps11
  go_upto_region 1 with fail
  rw [← HW.out]
  go_upto_region 5 with fail
  go_region_held3 (fun w' => w'.cell? ⟨w.heap.size, 1, none⟩ = some (.string (str8 q)) ∧ w'.cell? ⟨w.heap.size, 2, none⟩ = some (.string (str8 x)) ∧ w'.cell? ⟨w.heap.size, 3, none⟩ = some (.int .i64 k)) (first
      | exact ⟨p1, p2, p3⟩
      | exact HC.out _ HK2.out
      | exact HC.out _ (fun j hj => (HK3.out j hj).trans (HK2.out j hj)))
    (first
      | (go_at_call 23
         first
           | (refine (HP.out _ _ _ _ _ hBd).mono ?_
              rintro e w2 ⟨rfl, hB2, hk2⟩
              have HK2 := Lib.hid hk2
              clear hk2 hBd)
           | (refine (HP.out _ _ _ _ _ hB2).mono ?_
              rintro e w3 ⟨rfl, hB3, hk3⟩
              have HK3 := Lib.hid hk3
              clear hk3 hB2))
      | (go_at_call 25
         first
           | (refine (HQ.out _ _ _ _ hBd).mono ?_
              rintro e w2 ⟨rfl, hB2, hk2⟩
              have HK2 := Lib.hid hk2
              clear hk2 hBd)
           | (refine (HQ.out _ _ _ _ hB2).mono ?_
              rintro e w3 ⟨rfl, hB3, hk3⟩
              have HK3 := Lib.hid hk3
              clear hk3 hB2)))
  all_goals
    go_wp2_with fail
    go_ret
    exact does_end (fun j hj => .inl hj) hB3 HK3.out HK2.out HK.out (fun e => by rw [e])
set_option maxHeartbeats 1000000 in
theorem does_cut (h : Both w0 base nb qb X n m st sq w) (hm : m ≤ 1000000) (hx : ∀ k, X k → k < w.heap.size) (a : Nat) (ha : a < 256) (h7 : a % 9 = 2) (q x : List UInt8) (hq : q.length ≤ 140737488355328) (hxl : x.length ≤ 140737488355328) (k : Int) (Ak : Option Addr) (nk ck : Nat) :
    Calls Try.prog 11 #[.pointer (some ⟨nb, 0, none⟩), .pointer (some ⟨qb, 0, none⟩), .agg #[.int .u8 a, .string (str8 q), .string (str8 x), .int .i64 k, .slice Ak nk ck]] w (DoesSaid w0 base nb qb X (n + 1) (m + 1) st sq (cutD st q k).1 (cutD sq q k).1 w) := by
  obtain ⟨W, hW⟩ : ∃ W, W = w.alloc (.cells #[.int .u8 a, .string (str8 q), .string (str8 x), .int .i64 k, .slice Ak nk ck] 30) := ⟨_, rfl⟩
  have hbW : Below w.heap.size w W := by rw [hW]; exact below_boxK _ _
  have hsW : W.heap.size = w.heap.size + 1 := by rw [hW]; simp
  have hFB : W.heap[w.heap.size]? = some (.cells #[.int .u8 a, .string (str8 q), .string (str8 x), .int .i64 k, .slice Ak nk ck] 30 (0, 0)) := by rw [hW]; exact heap_alloc_new w _
  have hBd : Both w0 base nb qb (fun j => X j ∨ j = w.heap.size) n m st sq W.drew := (h.below hbW (Y := fun j => X j ∨ j = w.heap.size) fun j hj => hj.elim .inl fun e => .inr ⟨by omega, by omega⟩).below (below_drew1 (Below.refl _ _)) fun j hj => .inl hj
  have p0 : W.cell? ⟨w.heap.size, 0, none⟩ = some (.int .u8 a) := by rw [cell_of_row _ _ _ _ _ (0, 0) hFB]; rfl
  have HC := Lib.hid (fun (w1 : World) (hk : ∀ j, (X j ∨ j = w.heap.size) → w1.heap[j]? = W.drew.heap[j]?) => show w1.cell? ⟨w.heap.size, 1, none⟩ = some (.string (str8 q)) ∧ w1.cell? ⟨w.heap.size, 2, none⟩ = some (.string (str8 x)) ∧ w1.cell? ⟨w.heap.size, 3, none⟩ = some (.int .i64 k) from by
    have e := (hk _ (.inr rfl)).trans hFB
    exact ⟨by rw [cell_of_row _ _ _ _ _ (0, 0) e]; rfl, by rw [cell_of_row _ _ _ _ _ (0, 0) e]; rfl, by rw [cell_of_row _ _ _ _ _ (0, 0) e]; rfl⟩)
  have p1 : W.drew.cell? ⟨w.heap.size, 1, none⟩ = some (.string (str8 q)) := (HC.out W.drew fun _ _ => rfl).1
  have p2 : W.drew.cell? ⟨w.heap.size, 2, none⟩ = some (.string (str8 x)) := (HC.out W.drew fun _ _ => rfl).2.1
  have p3 : W.drew.cell? ⟨w.heap.size, 3, none⟩ = some (.int .i64 k) := (HC.out W.drew fun _ _ => rfl).2.2
  have HK := Lib.hid (fun j (hj : X j) => show W.drew.heap[j]? = w.heap[j]? from hbW.block j (hx j hj))
  have HP := Lib.hid (fun (n1 m1 : Nat) (s1 s2 : DD) (w1 : World) (hb : Both w0 base nb qb (fun j => X j ∨ j = w.heap.size) n1 m1 s1 s2 w1) => cut_two hb q hq k)
  have HQ := Lib.hid (fun (n1 : Nat) (s1 s2 : DD) (w1 : World) (hb : Both w0 base nb qb (fun j => X j ∨ j = w.heap.size) n1 m s1 s2 w1) => qcut_two hb hm q hq k)
  have HW := Lib.hid hW
  have hr : ((a : Int) % 9) = 2 := by omega
  clear h hbW hW hx h7 hsW hFB
  go_enter Try.func11, Try.ntmps11
  go_upto_region 1 with fail
  rw [← HW.out]
  go_upto_region 7 with fail
  go_region_held3 (fun w' => w'.cell? ⟨w.heap.size, 1, none⟩ = some (.string (str8 q)) ∧ w'.cell? ⟨w.heap.size, 2, none⟩ = some (.string (str8 x)) ∧ w'.cell? ⟨w.heap.size, 3, none⟩ = some (.int .i64 k)) (first
      | exact ⟨p1, p2, p3⟩
      | exact HC.out _ HK2.out
      | exact HC.out _ (fun j hj => (HK3.out j hj).trans (HK2.out j hj)))
    (first
      | (go_at_call 26
         first
           | (refine (HP.out _ _ _ _ _ hBd).mono ?_
              rintro e w2 ⟨rfl, hB2, hk2⟩
              have HK2 := Lib.hid hk2
              clear hk2 hBd)
           | (refine (HP.out _ _ _ _ _ hB2).mono ?_
              rintro e w3 ⟨rfl, hB3, hk3⟩
              have HK3 := Lib.hid hk3
              clear hk3 hB2))
      | (go_at_call 27
         first
           | (refine (HQ.out _ _ _ _ hBd).mono ?_
              rintro e w2 ⟨rfl, hB2, hk2⟩
              have HK2 := Lib.hid hk2
              clear hk2 hBd)
           | (refine (HQ.out _ _ _ _ hB2).mono ?_
              rintro e w3 ⟨rfl, hB3, hk3⟩
              have HK3 := Lib.hid hk3
              clear hk3 hB2)))
  all_goals
    go_wp2_with fail
    go_ret
    exact does_end (fun j hj => .inl hj) hB3 HK3.out HK2.out HK.out (fun e => by rw [e])
set_option maxHeartbeats 1000000 in
theorem does_rename (h : Both w0 base nb qb X n m st sq w) (hm : m ≤ 1000000) (hx : ∀ k, X k → k < w.heap.size) (a : Nat) (ha : a < 256) (h7 : a % 9 = 3) (q x : List UInt8) (hq : q.length ≤ 140737488355328) (hxl : x.length ≤ 140737488355328) (k : Int) (Ak : Option Addr) (nk ck : Nat) :
    Calls Try.prog 11 #[.pointer (some ⟨nb, 0, none⟩), .pointer (some ⟨qb, 0, none⟩), .agg #[.int .u8 a, .string (str8 q), .string (str8 x), .int .i64 k, .slice Ak nk ck]] w (DoesSaid w0 base nb qb X (n + 1) (m + 1) st sq (renameD st q x).1 (renameD sq q x).1 w) := by
  obtain ⟨W, hW⟩ : ∃ W, W = w.alloc (.cells #[.int .u8 a, .string (str8 q), .string (str8 x), .int .i64 k, .slice Ak nk ck] 30) := ⟨_, rfl⟩
  have hbW : Below w.heap.size w W := by rw [hW]; exact below_boxK _ _
  have hsW : W.heap.size = w.heap.size + 1 := by rw [hW]; simp
  have hFB : W.heap[w.heap.size]? = some (.cells #[.int .u8 a, .string (str8 q), .string (str8 x), .int .i64 k, .slice Ak nk ck] 30 (0, 0)) := by rw [hW]; exact heap_alloc_new w _
  have hBd : Both w0 base nb qb (fun j => X j ∨ j = w.heap.size) n m st sq W.drew := (h.below hbW (Y := fun j => X j ∨ j = w.heap.size) fun j hj => hj.elim .inl fun e => .inr ⟨by omega, by omega⟩).below (below_drew1 (Below.refl _ _)) fun j hj => .inl hj
  have p0 : W.cell? ⟨w.heap.size, 0, none⟩ = some (.int .u8 a) := by rw [cell_of_row _ _ _ _ _ (0, 0) hFB]; rfl
  have HC := Lib.hid (fun (w1 : World) (hk : ∀ j, (X j ∨ j = w.heap.size) → w1.heap[j]? = W.drew.heap[j]?) => show w1.cell? ⟨w.heap.size, 1, none⟩ = some (.string (str8 q)) ∧ w1.cell? ⟨w.heap.size, 2, none⟩ = some (.string (str8 x)) ∧ w1.cell? ⟨w.heap.size, 3, none⟩ = some (.int .i64 k) from by
    have e := (hk _ (.inr rfl)).trans hFB
    exact ⟨by rw [cell_of_row _ _ _ _ _ (0, 0) e]; rfl, by rw [cell_of_row _ _ _ _ _ (0, 0) e]; rfl, by rw [cell_of_row _ _ _ _ _ (0, 0) e]; rfl⟩)
  have p1 : W.drew.cell? ⟨w.heap.size, 1, none⟩ = some (.string (str8 q)) := (HC.out W.drew fun _ _ => rfl).1
  have p2 : W.drew.cell? ⟨w.heap.size, 2, none⟩ = some (.string (str8 x)) := (HC.out W.drew fun _ _ => rfl).2.1
  have p3 : W.drew.cell? ⟨w.heap.size, 3, none⟩ = some (.int .i64 k) := (HC.out W.drew fun _ _ => rfl).2.2
  have HK := Lib.hid (fun j (hj : X j) => show W.drew.heap[j]? = w.heap[j]? from hbW.block j (hx j hj))
  have HP := Lib.hid (fun (n1 m1 : Nat) (s1 s2 : DD) (w1 : World) (hb : Both w0 base nb qb (fun j => X j ∨ j = w.heap.size) n1 m1 s1 s2 w1) => rename_two hb q hq x hxl)
  have HQ := Lib.hid (fun (n1 : Nat) (s1 s2 : DD) (w1 : World) (hb : Both w0 base nb qb (fun j => X j ∨ j = w.heap.size) n1 m s1 s2 w1) => qrename_two hb hm q hq x hxl)
  have HW := Lib.hid hW
  have hr : ((a : Int) % 9) = 3 := by omega
  clear h hbW hW hx h7 hsW hFB
  go_enter Try.func11, Try.ntmps11
  go_upto_region 1 with fail
  rw [← HW.out]
  go_upto_region 9 with fail
  go_region_held3 (fun w' => w'.cell? ⟨w.heap.size, 1, none⟩ = some (.string (str8 q)) ∧ w'.cell? ⟨w.heap.size, 2, none⟩ = some (.string (str8 x)) ∧ w'.cell? ⟨w.heap.size, 3, none⟩ = some (.int .i64 k)) (first
      | exact ⟨p1, p2, p3⟩
      | exact HC.out _ HK2.out
      | exact HC.out _ (fun j hj => (HK3.out j hj).trans (HK2.out j hj)))
    (first
      | (go_at_call 28
         first
           | (refine (HP.out _ _ _ _ _ hBd).mono ?_
              rintro e w2 ⟨rfl, hB2, hk2⟩
              have HK2 := Lib.hid hk2
              clear hk2 hBd)
           | (refine (HP.out _ _ _ _ _ hB2).mono ?_
              rintro e w3 ⟨rfl, hB3, hk3⟩
              have HK3 := Lib.hid hk3
              clear hk3 hB2))
      | (go_at_call 29
         first
           | (refine (HQ.out _ _ _ _ hBd).mono ?_
              rintro e w2 ⟨rfl, hB2, hk2⟩
              have HK2 := Lib.hid hk2
              clear hk2 hBd)
           | (refine (HQ.out _ _ _ _ hB2).mono ?_
              rintro e w3 ⟨rfl, hB3, hk3⟩
              have HK3 := Lib.hid hk3
              clear hk3 hB2)))
  all_goals
    go_wp2_with fail
    go_ret
    exact does_end (fun j hj => .inl hj) hB3 HK3.out HK2.out HK.out (fun e => by rw [e])
set_option maxHeartbeats 1000000 in
theorem does_remove (h : Both w0 base nb qb X n m st sq w) (hm : m ≤ 1000000) (hx : ∀ k, X k → k < w.heap.size) (a : Nat) (ha : a < 256) (h7 : a % 9 = 4) (q x : List UInt8) (hq : q.length ≤ 140737488355328) (hxl : x.length ≤ 140737488355328) (k : Int) (Ak : Option Addr) (nk ck : Nat) :
    Calls Try.prog 11 #[.pointer (some ⟨nb, 0, none⟩), .pointer (some ⟨qb, 0, none⟩), .agg #[.int .u8 a, .string (str8 q), .string (str8 x), .int .i64 k, .slice Ak nk ck]] w (DoesSaid w0 base nb qb X (n + 1) (m + 1) st sq (removeD st q).1 (removeD sq q).1 w) := by
  obtain ⟨W, hW⟩ : ∃ W, W = w.alloc (.cells #[.int .u8 a, .string (str8 q), .string (str8 x), .int .i64 k, .slice Ak nk ck] 30) := ⟨_, rfl⟩
  have hbW : Below w.heap.size w W := by rw [hW]; exact below_boxK _ _
  have hsW : W.heap.size = w.heap.size + 1 := by rw [hW]; simp
  have hFB : W.heap[w.heap.size]? = some (.cells #[.int .u8 a, .string (str8 q), .string (str8 x), .int .i64 k, .slice Ak nk ck] 30 (0, 0)) := by rw [hW]; exact heap_alloc_new w _
  have hBd : Both w0 base nb qb (fun j => X j ∨ j = w.heap.size) n m st sq W.drew := (h.below hbW (Y := fun j => X j ∨ j = w.heap.size) fun j hj => hj.elim .inl fun e => .inr ⟨by omega, by omega⟩).below (below_drew1 (Below.refl _ _)) fun j hj => .inl hj
  have p0 : W.cell? ⟨w.heap.size, 0, none⟩ = some (.int .u8 a) := by rw [cell_of_row _ _ _ _ _ (0, 0) hFB]; rfl
  have HC := Lib.hid (fun (w1 : World) (hk : ∀ j, (X j ∨ j = w.heap.size) → w1.heap[j]? = W.drew.heap[j]?) => show w1.cell? ⟨w.heap.size, 1, none⟩ = some (.string (str8 q)) ∧ w1.cell? ⟨w.heap.size, 2, none⟩ = some (.string (str8 x)) ∧ w1.cell? ⟨w.heap.size, 3, none⟩ = some (.int .i64 k) from by
    have e := (hk _ (.inr rfl)).trans hFB
    exact ⟨by rw [cell_of_row _ _ _ _ _ (0, 0) e]; rfl, by rw [cell_of_row _ _ _ _ _ (0, 0) e]; rfl, by rw [cell_of_row _ _ _ _ _ (0, 0) e]; rfl⟩)
  have p1 : W.drew.cell? ⟨w.heap.size, 1, none⟩ = some (.string (str8 q)) := (HC.out W.drew fun _ _ => rfl).1
  have p2 : W.drew.cell? ⟨w.heap.size, 2, none⟩ = some (.string (str8 x)) := (HC.out W.drew fun _ _ => rfl).2.1
  have p3 : W.drew.cell? ⟨w.heap.size, 3, none⟩ = some (.int .i64 k) := (HC.out W.drew fun _ _ => rfl).2.2
  have HK := Lib.hid (fun j (hj : X j) => show W.drew.heap[j]? = w.heap[j]? from hbW.block j (hx j hj))
  have HP := Lib.hid (fun (n1 m1 : Nat) (s1 s2 : DD) (w1 : World) (hb : Both w0 base nb qb (fun j => X j ∨ j = w.heap.size) n1 m1 s1 s2 w1) => remove_two hb q hq)
  have HQ := Lib.hid (fun (n1 : Nat) (s1 s2 : DD) (w1 : World) (hb : Both w0 base nb qb (fun j => X j ∨ j = w.heap.size) n1 m s1 s2 w1) => qremove_two hb hm q hq)
  have HW := Lib.hid hW
  have hr : ((a : Int) % 9) = 4 := by omega
  clear h hbW hW hx h7 hsW hFB
  go_enter Try.func11, Try.ntmps11
  go_upto_region 1 with fail
  rw [← HW.out]
  go_upto_region 11 with fail
  go_region_held3 (fun w' => w'.cell? ⟨w.heap.size, 1, none⟩ = some (.string (str8 q)) ∧ w'.cell? ⟨w.heap.size, 2, none⟩ = some (.string (str8 x)) ∧ w'.cell? ⟨w.heap.size, 3, none⟩ = some (.int .i64 k)) (first
      | exact ⟨p1, p2, p3⟩
      | exact HC.out _ HK2.out
      | exact HC.out _ (fun j hj => (HK3.out j hj).trans (HK2.out j hj)))
    (first
      | (go_at_call 30
         first
           | (refine (HP.out _ _ _ _ _ hBd).mono ?_
              rintro e w2 ⟨rfl, hB2, hk2⟩
              have HK2 := Lib.hid hk2
              clear hk2 hBd)
           | (refine (HP.out _ _ _ _ _ hB2).mono ?_
              rintro e w3 ⟨rfl, hB3, hk3⟩
              have HK3 := Lib.hid hk3
              clear hk3 hB2))
      | (go_at_call 31
         first
           | (refine (HQ.out _ _ _ _ hBd).mono ?_
              rintro e w2 ⟨rfl, hB2, hk2⟩
              have HK2 := Lib.hid hk2
              clear hk2 hBd)
           | (refine (HQ.out _ _ _ _ hB2).mono ?_
              rintro e w3 ⟨rfl, hB3, hk3⟩
              have HK3 := Lib.hid hk3
              clear hk3 hB2)))
  all_goals
    go_wp2_with fail
    go_ret
    exact does_end (fun j hj => .inl hj) hB3 HK3.out HK2.out HK.out (fun e => by rw [e])
end

end Go.Proofs.Ytngjmeohleoglaa
