/-
  The law's own 'does', further: Fuse, Wake, Read and Safe.
  Conditions: none but sizes.
-/
import Derived.Test.YtngjmeohleoglaaDqN
namespace Go.Proofs.Ytngjmeohleoglaa
open Go.RowKit Go.Shelf
set_option linter.unusedVariables false
set_option linter.unusedSimpArgs false
set_option maxRecDepth 100000

section
variable {w0 w w' : World} {base nb qb n m : Nat} {X : Nat → Prop} {st sq : DD}
theorem does_fuse (h : Both w0 base nb qb X n m st sq w) (hm : m ≤ 1000000) (hx : ∀ k, X k → k < w.heap.size) (a : Nat) (ha : a < 256) (h7 : a % 9 = 6) (q x : List UInt8) (k : Int) (hk9 : k ≤ 9223372036854775807) (Ak : Option Addr) (nk ck : Nat) :
    Calls Try.prog 11 #[.pointer (some ⟨nb, 0, none⟩), .pointer (some ⟨qb, 0, none⟩), .agg #[.int .u8 a, .string (str8 q), .string (str8 x), .int .i64 k, .slice Ak nk ck]] w (DoesSaid w0 base nb qb X (n + 1) (m + 1) st sq (fuseD st k) (fuseD sq k) w) := by
  obtain ⟨W, hW⟩ : ∃ W, W = w.alloc (.cells #[.int .u8 a, .string (str8 q), .string (str8 x), .int .i64 k, .slice Ak nk ck] 30) := ⟨_, rfl⟩
  have hbW : Below w.heap.size w W := by rw [hW]; exact below_boxK _ _
  have hsW : W.heap.size = w.heap.size + 1 := by rw [hW]; simp
  have hFB : W.heap[w.heap.size]? = some (.cells #[.int .u8 a, .string (str8 q), .string (str8 x), .int .i64 k, .slice Ak nk ck] 30 (0, 0)) := by rw [hW]; exact heap_alloc_new w _
  have hB : Both w0 base nb qb (fun j => X j ∨ j = w.heap.size) n m st sq W := h.below hbW (Y := fun j => X j ∨ j = w.heap.size) fun j hj => hj.elim .inl fun e => .inr ⟨by omega, by omega⟩
  have p0 : W.cell? ⟨w.heap.size, 0, none⟩ = some (.int .u8 a) := by rw [cell_of_row _ _ _ _ _ (0, 0) hFB]; rfl
  have p3 : W.cell? ⟨w.heap.size, 3, none⟩ = some (.int .i64 k) := by rw [cell_of_row _ _ _ _ _ (0, 0) hFB]; rfl
  have HF := Lib.hid hFB
  have HC := Lib.hid (fuse_two hB k hk9)
  have HK := Lib.hid (fun j (hj : X j) => hbW.block j (hx j hj))
  have HW := Lib.hid hW
  have hr : ((a : Int) % 9) = 6 := by omega
  clear h hB hbW hW hx h7 hsW hFB
  go_enter Try.func11, Try.ntmps11
  go_upto_region 1 with fail
  rw [← HW.out]
  go_wp2_with fail
  refine (HC.out).mono ?_
  rintro e w2 ⟨rfl, hB2, hk2⟩
  have HC2 := Lib.hid (qfuse_two hB2 hm k hk9)
  have r3 : w2.cell? ⟨w.heap.size, 3, none⟩ = some (.int .i64 k) := by rw [cell_of_row _ _ _ _ _ (0, 0) ((hk2 _ (.inr rfl)).trans HF.out)]; rfl
  have HK2 := Lib.hid hk2
  clear hB2 hk2
  go_wp2_with fail
  refine (HC2.out).mono ?_
  rintro e w3 ⟨rfl, hB3, hk3⟩
  have HE := Lib.hid (show DoesSaid w0 base nb qb X (n + 1) (m + 1) st sq (fuseD st k) (fuseD sq k) w (.returned (.bool true)) w3 from ⟨true, rfl, fun _ => rfl, hB3.below (Below.refl _ _) (fun j hj => .inl (.inl hj)), fun j hj => (hk3 j (.inl hj)).trans ((HK2.out j (.inl hj)).trans (HK.out j hj))⟩)
  clear hB3 hk3
  go_wp2_with fail
  go_ret
  exact HE.out

theorem Both.asks (h : Both w0 base nb qb X n m st sq w) {keep : List Int} {vk : Value} {dk : Nat} (hks : ShowsG intC w0 dk vk keep) (hdk : dk < base) (hs : base ≤ w0.heap.size) : ShowsG intC w dk vk keep := hks.keep (h.bel.size) fun _ => h.bel.block dk hdk
theorem does_wake (h : Both w0 base nb qb X n m st sq w) (hn : n ≤ 1000000) (hm : m ≤ 1000000) (hx : ∀ k, X k → k < w.heap.size) (a : Nat) (ha : a < 256) (h7 : a % 9 = 8) (q x : List UInt8) (k : Int) (Ak : Option Addr) (nk ck : Nat) (keep : List Int) (dk : Nat) (hks : ShowsG intC w0 dk (.slice Ak nk ck) keep) (hdk : dk < base) (hs : base ≤ w0.heap.size) (hkl : keep.length ≤ 140737488355328) :
    Calls Try.prog 11 #[.pointer (some ⟨nb, 0, none⟩), .pointer (some ⟨qb, 0, none⟩), .agg #[.int .u8 a, .string (str8 q), .string (str8 x), .int .i64 k, .slice Ak nk ck]] w (DoesSaid w0 base nb qb X (n + 1) (m + 1) st sq (wakeD st keep) (wakeD sq keep) w) := by
  obtain ⟨W, hW⟩ : ∃ W, W = w.alloc (.cells #[.int .u8 a, .string (str8 q), .string (str8 x), .int .i64 k, .slice Ak nk ck] 30) := ⟨_, rfl⟩
  have hbW : Below w.heap.size w W := by rw [hW]; exact below_boxK _ _
  have hsW : W.heap.size = w.heap.size + 1 := by rw [hW]; simp
  have hFB : W.heap[w.heap.size]? = some (.cells #[.int .u8 a, .string (str8 q), .string (str8 x), .int .i64 k, .slice Ak nk ck] 30 (0, 0)) := by rw [hW]; exact heap_alloc_new w _
  have hB : Both w0 base nb qb (fun j => X j ∨ j = w.heap.size) n m st sq W := h.below hbW (Y := fun j => X j ∨ j = w.heap.size) fun j hj => hj.elim .inl fun e => .inr ⟨by omega, by omega⟩
  have p0 : W.cell? ⟨w.heap.size, 0, none⟩ = some (.int .u8 a) := by rw [cell_of_row _ _ _ _ _ (0, 0) hFB]; rfl
  have p4 : W.cell? ⟨w.heap.size, 4, none⟩ = some (.slice Ak nk ck) := by rw [cell_of_row _ _ _ _ _ (0, 0) hFB]; rfl
  have HF := Lib.hid hFB
  have HC := Lib.hid (wake_two hB hn keep _ dk (hB.asks hks hdk hs) hdk hkl)
  have HQ := Lib.hid (fun (w1 : World) (n1 : Nat) (s1 : DD) (hb : Both w0 base nb qb (fun j => X j ∨ j = w.heap.size) n1 m s1 sq w1) => qwake_two hb hm keep _ dk (hb.asks hks hdk hs) hdk hkl)
  have HK := Lib.hid (fun j (hj : X j) => hbW.block j (hx j hj))
  have HW := Lib.hid hW
  have hr : ((a : Int) % 9) = 8 := by omega
  clear h hB hbW hW hx h7 hsW hFB hks
  go_enter Try.func11, Try.ntmps11
  go_upto_region 1 with fail
  rw [← HW.out]
  go_wp2_with fail
  refine (HC.out).mono ?_
  rintro e w2 ⟨rfl, hB2, hk2⟩
  have HC2 := Lib.hid (HQ.out _ _ _ hB2)
  have r4 : w2.cell? ⟨w.heap.size, 4, none⟩ = some (.slice Ak nk ck) := by rw [cell_of_row _ _ _ _ _ (0, 0) ((hk2 _ (.inr rfl)).trans HF.out)]; rfl
  have HK2 := Lib.hid hk2
  clear hB2 hk2
  go_wp2_with fail
  refine (HC2.out).mono ?_
  rintro e w3 ⟨rfl, hB3, hk3⟩
  have HE := Lib.hid (show DoesSaid w0 base nb qb X (n + 1) (m + 1) st sq (wakeD st keep) (wakeD sq keep) w (.returned (.bool true)) w3 from ⟨true, rfl, fun _ => rfl, hB3.below (Below.refl _ _) (fun j hj => .inl (.inl hj)), fun j hj => (hk3 j (.inl hj)).trans ((HK2.out j (.inl hj)).trans (HK.out j hj))⟩)
  clear hB3 hk3
  go_wp2_with fail
  go_ret
  exact HE.out
end

end Go.Proofs.Ytngjmeohleoglaa
